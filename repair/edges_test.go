package repair

import (
	"slices"
	"testing"

	"forme/api"
	"forme/sample"
)

func TestEdges(t *testing.T) {
	knob := func(rule, decl int, values, costs []int) api.Knob {
		return api.Knob{Rule: rule, Decl: decl, Values: values, Costs: costs}
	}
	ten := slices.Repeat([]int{1}, 10)
	for i, x := range []struct {
		k    api.Knob
		want api.Errno
	}{
		{knob(199, 39, ten, ten), 0}, {knob(200, 0, ten, ten), api.ErrArg}, {knob(0, 40, ten, ten), api.ErrArg}, {knob(-1, 0, ten, ten), api.ErrArg}, {knob(0, -1, ten, ten), api.ErrArg}, {knob(0, 0, append(ten, 1), append(ten, 1)), api.ErrArg},
		{knob(0, 0, nil, nil), api.ErrArg}, {knob(0, 0, ten, ten[:9]), api.ErrArg}, {knob(0, 0, []int{1000000, -1000000}, []int{1000000, 0}), 0}, {knob(0, 0, []int{1000001}, []int{0}), api.ErrArg}, {knob(0, 0, []int{-1000001}, []int{0}), api.ErrArg},
		{knob(0, 0, []int{0}, []int{-1}), api.ErrArg}, {knob(0, 0, []int{0}, []int{1000001}), api.ErrArg},
	} {
		if c, e := Cost([]api.Knob{x.k}, []int{0}); e != x.want || e == 0 && c != x.k.Costs[0] || e != 0 && c != 0 {
			t.Errorf("case %d: %d, %v", i, c, e)
		}
	}
}

func TestMostKnobs(t *testing.T) {
	d := sample.Doc("rule 0 * { pad: 1; above: 1%; below: 1em; least: 1; most: 1; gap: 1; cut: 1; top: 1; left: 1 + 1; basis: 1; }", sample.Root())
	var l []api.Knob
	for decl := range 8 {
		l = append(l, api.Knob{Decl: decl, Values: []int{5}, Costs: []int{decl}})
	}
	at := slices.Repeat([]int{0}, 8)
	got, e := Turn(d, l, at)
	if e != 0 || got.Rules[0].Decls[7].Value.N != 5 || d.Rules[0].Decls[7].Value.N != 1 {
		t.Error(e)
	}
	if c, e := Cost(l, at); e != 0 || c != 28 {
		t.Error(c, e)
	}
	more := append(slices.Clone(l), api.Knob{Decl: 9, Values: []int{5}, Costs: []int{0}})
	if c, e := Cost(more, append(at, 0)); e != api.ErrArg || c != 0 {
		t.Error(c, e)
	}
	z := []api.Zone{sample.Zone(0, 100, 100, 200, 200)}
	for i, x := range []struct {
		decl, value int
		want        api.Errno
	}{{0, 1000000, 0}, {0, -1000000, 0}, {1, 10000, 0}, {1, 10001, api.ErrArg}, {1, -10001, api.ErrArg}, {2, -10000, 0}, {2, -10001, api.ErrArg}, {2, 10001, api.ErrArg}, {8, 1, api.ErrArg}, {10, 1, api.ErrArg}} {
		k := []api.Knob{{Decl: x.decl, Values: []int{0, x.value}, Costs: []int{1, 1}}}
		_, e := Turn(d, k, []int{-1})
		_, _, found, e2 := Find(d, z, k, claims(t, "not above 1 100"))
		if e != x.want || e2 != x.want || e2 != 0 && found {
			t.Errorf("case %d: %v, %v", i, e, e2)
		}
	}
	for n, want := range map[int]api.Errno{0: api.ErrArg, 1: 0, 10: 0, 11: api.ErrArg} {
		if _, _, _, e := Find(d, z, nil, slices.Repeat(claims(t, "order"), n)); e != want {
			t.Error(n, e)
		}
	}
	for i, at := range [][]int{nil, {0}, slices.Repeat([]int{-2}, 8), slices.Repeat([]int{1}, 8)} {
		got, e := Turn(d, l, at)
		c, e2 := Cost(l, at)
		if e != api.ErrArg || e2 != api.ErrArg || got.Nodes != nil || c != 0 {
			t.Errorf("turn %d: %v, %v", i, e, e2)
		}
	}
}

// TestManyTurns counts turns: just as many as there may be, and one more.
func TestManyTurns(t *testing.T) {
	d := sample.Doc("rule 0 * { pad: 1; above: 1; below: 1; least: 1; }", sample.Root())
	z := []api.Zone{sample.Zone(0, 100, 100, 200, 200)}
	knobs := func(counts ...int) []api.Knob {
		var l []api.Knob
		for decl, n := range counts {
			l = append(l, api.Knob{Decl: decl, Values: make([]int, n-1), Costs: make([]int, n-1)})
		}
		return l
	}
	for i, x := range []struct {
		l    []api.Knob
		want api.Errno
	}{{knobs(10, 10, 10), 0}, {knobs(11, 11, 9), api.ErrLimit}, {knobs(7, 11, 2, 6), 0}, {knobs(7, 11, 2, 7), api.ErrLimit}, {knobs(11, 7, 4, 3), 0}} {
		at, cost, found, e := Find(d, z, x.l, claims(t, "order"))
		if e != x.want || found != (e == 0) || cost != 0 || e != 0 && at != nil {
			t.Errorf("case %d: %v, %v", i, at, e)
		}
	}
}
