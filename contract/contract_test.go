package contract

import (
	"slices"
	"testing"

	"forme/api"
	"forme/curve"
	"forme/sample"
)

func promise(t *testing.T, node, most, from int, heights ...int) api.Contract {
	t.Helper()
	parts, e := curve.Make(from, heights)
	if e != api.OK {
		t.Fatal(e)
	}
	return api.Contract{Node: node, Most: most, Heights: parts}
}

// example promises 100 for the widths 200 to 299, and 50 from 300 to 400.
func example(t *testing.T) api.Contract {
	t.Helper()
	return promise(t, 5, 1, 200, append(slices.Repeat([]int{100}, 100), slices.Repeat([]int{50}, 101)...)...)
}

func height(width, h int) api.Answer {
	return api.Answer{Node: 5, Width: width, Kind: api.AnswerHeight, H: h}
}

func TestExample(t *testing.T) {
	c := example(t)
	a := api.Account{Node: 5}
	for i, x := range []struct {
		answer api.Answer
		want   api.Account
		h      int
		cut    bool
	}{
		{height(250, 100), api.Account{Node: 5}, 100, false},
		{height(250, 120), api.Account{Node: 5, Charged: 1, Changes: 1, Last: 20}, 100, true},
		{height(250, 120), api.Account{Node: 5, Charged: 2, Changes: 1, Last: 20}, 100, true},
		{height(300, 70), api.Account{Node: 5, Charged: 3, Changes: 1, Last: 20}, 50, true},
		{api.Answer{Node: 5, Width: 250, Kind: api.AnswerLate}, api.Account{Node: 5, Charged: 3, Changes: 1, Last: 20}, 100, false},
		{api.Answer{Node: 5, Width: 250, Kind: api.AnswerFail}, api.Account{Node: 5, Charged: 4, Changes: 1, Last: 20}, 100, false},
		{height(250, 90), api.Account{Node: 5, Charged: 5, Changes: 2, Last: -10, Frozen: true}, 100, false},
		{height(250, 120), api.Account{Node: 5, Charged: 5, Changes: 2, Last: -10, Frozen: true}, 100, true},
		{api.Answer{Node: 5, Width: 400, Kind: api.AnswerFail}, api.Account{Node: 5, Charged: 5, Changes: 2, Last: -10, Frozen: true}, 50, false},
	} {
		next, h, cut, e := Judge(c, a, x.answer)
		if e != 0 || next != x.want || h != x.h || cut != x.cut {
			t.Errorf("answer %d: %v, %d, %v, %v", i, next, h, cut, e)
		}
		a = next
	}
	for width, want := range map[int]int{0: 100, 180: 100, 200: 100, 299: 100, 300: 50, 400: 50, 401: 50, 1000: 50, 1000000: 50} {
		if h, e := Promised(c, width); e != 0 || h != want {
			t.Errorf("width %d: %d, %v", width, h, e)
		}
	}
}

func TestBack(t *testing.T) {
	// To go back to what was promised is a change, too, but it is not charged.
	a, h, e := Course(example(t), []api.Answer{height(200, 101), height(200, 100)})
	if e != 0 || a != (api.Account{Node: 5, Charged: 1, Changes: 2, Frozen: true}) || !slices.Equal(h, []int{100, 100}) {
		t.Error(a, h, e)
	}
	full := api.Account{Node: 5, Charged: 1000000000, Changes: 1000000000}
	full, _, _, _ = Judge(example(t), full, height(200, 1))
	if full != (api.Account{Node: 5, Charged: 1000000000, Changes: 1000000000, Last: -99, Frozen: true}) {
		t.Error(full)
	}
	late, _, _, _ := Judge(example(t), api.Account{Node: 5, Changes: 2}, api.Answer{Node: 5, Kind: api.AnswerLate})
	if late != (api.Account{Node: 5, Changes: 2, Frozen: true}) {
		t.Error(late)
	}
}

func TestValid(t *testing.T) {
	good := example(t)
	for i, c := range []api.Contract{
		{}, {Node: 5}, {Node: 0, Heights: good.Heights}, {Node: 1000001, Heights: good.Heights}, {Node: 5, Most: -1, Heights: good.Heights}, {Node: 5, Most: 101, Heights: good.Heights},
		promise(t, 5, 0, 0, 5, -1), promise(t, 5, 0, 0, 1000001), {Node: 5, Heights: good.Heights[1:2:2]},
		{Node: 5, Heights: []api.Part{{From: 0, Until: 1, F: api.Quot{B: 1, D: 1}}, {From: 1, Until: 2, F: api.Quot{B: 1, D: 1}}}},
	} {
		want := i == 8
		_, e := Promised(c, 200)
		_, _, e2 := Course(c, make([]api.Answer, 501))
		if Valid(c) != want || (e == 0) != want || (e2 == api.ErrArg) == want {
			t.Errorf("case %d: %v, %v, %v", i, Valid(c), e, e2)
		}
	}
	for _, c := range []api.Contract{good, promise(t, 1, 0, 0, 0), promise(t, 1000000, 100, 4000, 1000000)} {
		if !Valid(c) {
			t.Error(c)
		}
	}
	for _, width := range []int{-1, 1000001} {
		if h, e := Promised(good, width); e != api.ErrArg || h != 0 {
			t.Error(width, e)
		}
	}
}

func TestRefused(t *testing.T) {
	good, a := example(t), api.Account{Node: 5}
	for i, x := range []api.Answer{
		{}, {Node: 5}, {Node: 5, Kind: 4}, {Node: 6, Kind: 1}, {Node: 5, Kind: 1, H: -1}, {Node: 5, Kind: 1, H: 1000001}, {Node: 5, Kind: 1, Width: -1},
		{Node: 5, Kind: 1, Width: 1000001}, {Node: 5, Kind: 2, H: 1}, {Node: 5, Kind: 3, H: 1}, {Kind: 3}, {Node: 5, Kind: 2, Width: -1},
	} {
		next, h, cut, e := Judge(good, a, x)
		_, l, e2 := Course(good, []api.Answer{height(200, 1), x})
		if e != api.ErrArg || next != (api.Account{}) || h != 0 || cut || e2 != api.ErrArg || l != nil {
			t.Errorf("answer %d: %v, %v", i, e, e2)
		}
	}
	for i, a := range []api.Account{
		{}, {Node: 6}, {Node: 5, Charged: -1}, {Node: 5, Charged: 1000000001}, {Node: 5, Changes: -1}, {Node: 5, Changes: 1000000001},
		{Node: 5, Last: 1000001}, {Node: 5, Last: -1000001},
	} {
		if _, _, _, e := Judge(good, a, height(200, 1)); e != api.ErrArg {
			t.Errorf("account %d: %v", i, e)
		}
	}
	for _, a := range []api.Account{{Node: 5, Last: 1000000}, {Node: 5, Last: -1000000, Charged: 1000000000, Changes: 1000000000, Frozen: true}} {
		if _, _, _, e := Judge(good, a, height(1000000, 1000000)); e != 0 {
			t.Error(a, e)
		}
	}
	if _, _, _, e := Judge(api.Contract{Node: 5}, a, height(200, 1)); e != api.ErrArg {
		t.Error(e)
	}
	if next, l, e := Course(good, make([]api.Answer, 501)); e != api.ErrLimit || l != nil || next != (api.Account{}) {
		t.Error(e)
	}
	if next, l, e := Course(good, slices.Repeat([]api.Answer{height(200, 1)}, 500)); e != 0 || len(l) != 500 || next.Charged != 500 {
		t.Error(next, e)
	}
}

func TestCourses(t *testing.T) {
	for seed := range 400 {
		dice := sample.Roll(seed)
		var heights []int
		for range 1 + dice.N(9) {
			heights = append(heights, dice.N(4))
		}
		c := promise(t, 5, dice.N(6), 200, heights...)
		var l []api.Answer
		honest := seed%4 == 0
		for range dice.N(12) {
			x := api.Answer{Node: 5, Width: 197 + dice.N(15), Kind: 1 + dice.N(3)}
			switch {
			case honest && x.Kind == api.AnswerFail:
				x.Kind = api.AnswerLate
			case honest && x.Kind == api.AnswerHeight:
				x.H, _ = Promised(c, x.Width)
			case x.Kind == api.AnswerHeight:
				x.H = dice.N(5)
			}
			l = append(l, x)
		}
		a, hs, e := Course(c, l)
		if e != 0 || len(hs) != len(l) || honest && a != (api.Account{Node: 5}) {
			t.Fatal(a, e)
		}
		one := api.Account{Node: 5}
		charged, last, changes := 0, 0, 0
		for i, x := range l {
			want := heights[min(max(x.Width-200, 0), len(heights)-1)]
			if one.Frozen != (changes > c.Most) {
				t.Fatal("frozen", one)
			}
			if d := x.H - want; !one.Frozen && x.Kind != api.AnswerLate {
				if x.Kind == api.AnswerFail || d != 0 {
					charged++
				}
				if x.Kind == api.AnswerHeight && d != last {
					last = d
					changes++
				}
			}
			next, h, cut, e := Judge(c, one, x)
			if e != 0 || h != want || hs[i] != want || cut != (x.H > want) || next.Charged != charged || one.Frozen && next != one {
				t.Fatal(next, h, cut, e)
			}
			one = next
		}
		if one != a {
			t.Fatal(one, a)
		}
	}
}
