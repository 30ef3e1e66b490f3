package program

import (
	"reflect"
	"slices"
	"strings"
	"testing"

	"forme/api"
	"forme/codec"
	"forme/digest"
	"forme/sample"
)

func slice(x, y, h int, text string) api.Slice { return api.Slice{X: x, Y: y, H: h, Text: text} }

func TestExample(t *testing.T) {
	ops, e := Compile([]api.Page{{Number: 3, Slices: []api.Slice{slice(20, 5, 10, "b"), slice(4, 5, 12, "a"), slice(0, 0, 7, "")}}})
	want := []api.Op{{Page: 3, H: 7}, {Page: 3, Y: 5, H: 12, Runs: []api.Run{{X: 4, Text: "a"}, {X: 20, Text: "b"}}}}
	if e != 0 || !reflect.DeepEqual(ops, want) {
		t.Fatal(ops, e)
	}
	b, e := Encode(want[1])
	own, _ := codec.Put([]int{3, 5, 12, 2, 4, 1, 97, 20, 1, 98})
	if e != 0 || !slices.Equal(b, own) {
		t.Error(b, e)
	}
}

func TestCompileRefused(t *testing.T) {
	page := func(n int, l ...api.Slice) api.Page { return api.Page{Number: n, Slices: l} }
	var runs, rows []api.Slice
	for i := range 4000 {
		runs, rows = append(runs, slice(i, 0, 1, "a")), append(rows, slice(0, i, 1, "a"))
	}
	var many []api.Page
	for i := range 501 {
		many = append(many, page(i+1))
	}
	for i, x := range []struct {
		l    []api.Page
		want api.Errno
		ops  int
	}{
		{nil, 0, 0}, {many[:500], 0, 0}, {many, api.ErrArg, 0}, {[]api.Page{page(0)}, api.ErrArg, 0}, {[]api.Page{page(501)}, api.ErrArg, 0}, {[]api.Page{page(2), page(2)}, api.ErrArg, 0},
		{[]api.Page{page(1, slice(api.MaxCoord+1, 0, 0, ""))}, api.ErrArg, 0}, {[]api.Page{page(1, slice(0, -api.MaxCoord-1, 0, ""))}, api.ErrArg, 0},
		{[]api.Page{page(1, slice(0, 0, -1, ""))}, api.ErrArg, 0}, {[]api.Page{page(1, slice(0, 0, api.MaxCoord+1, ""))}, api.ErrArg, 0}, {[]api.Page{page(1, slice(0, 0, 0, "\t"))}, api.ErrArg, 0},
		{[]api.Page{page(1, api.Slice{Node: -1})}, api.ErrArg, 0}, {[]api.Page{page(1, api.Slice{Node: 1000001})}, api.ErrArg, 0}, {[]api.Page{page(1, make([]api.Slice, 4001)...)}, api.ErrArg, 0},
		{[]api.Page{page(1, runs[:500]...)}, 0, 1}, {[]api.Page{page(1, runs[:501]...)}, api.ErrLimit, 0}, {[]api.Page{page(1, append(slices.Clone(runs[:500]), slice(9, 0, 1, ""))...)}, 0, 1},
		{[]api.Page{page(1, rows...), page(2, rows...), page(3, rows[:2000]...)}, 0, 10000}, {[]api.Page{page(1, rows...), page(2, rows...), page(3, rows[:2001]...)}, api.ErrLimit, 0},
	} {
		if ops, e := Compile(x.l); e != x.want || len(ops) != x.ops {
			t.Errorf("case %d: %d, %v", i, len(ops), e)
		}
	}
}

func randomPages(dice *sample.Dice) []api.Page {
	var l []api.Page
	n := 0
	for range 1 + dice.N(4) {
		n += 1 + dice.N(3)
		p := api.Page{Number: n}
		for range dice.N(12) {
			p.Slices = append(p.Slices, slice(dice.N(6)-3, dice.N(6)-3, dice.N(9), dice.Pick("", "a", "bc", "D~e", " ")))
		}
		l = append(l, p)
	}
	return l
}

func TestPrograms(t *testing.T) {
	for seed := range 600 {
		dice := sample.Roll(seed)
		l := randomPages(dice)
		ops, e := Compile(l)
		if e != 0 || !validOps(ops) {
			t.Fatal(e)
		}
		at := 0
		for _, p := range l {
			for y := -3; y < 3; y++ {
				want := api.Op{Page: p.Number, Y: y}
				any := false
				for x := -3; x < 3; x++ {
					for _, s := range p.Slices {
						if s.Y == y && s.X == x {
							any = true
							want.H = max(want.H, s.H)
							if s.Text != "" {
								want.Runs = append(want.Runs, api.Run{X: x, Text: s.Text})
							}
						}
					}
				}
				if !any {
					continue
				}
				if at == len(ops) || !reflect.DeepEqual(ops[at], want) {
					t.Fatalf("seed %d: %v", seed, want)
				}
				at++
			}
		}
		if at != len(ops) {
			t.Fatal("too many rows")
		}
		if at > 0 {
			sent(t, dice, ops)
		}
	}
}

// sent looks at the packets of a program.
func sent(t *testing.T, dice *sample.Dice, ops []api.Op) {
	t.Helper()
	packets, root, e := Send(ops)
	if e != 0 || len(packets) != len(ops) {
		t.Fatal(e)
	}
	var sums []uint64
	for _, p := range packets {
		sums = append(sums, digest.Sum(p.Body))
	}
	if own, _ := digest.Root(sums); own != root {
		t.Fatal("root")
	}
	for i, p := range packets {
		path, _ := digest.Path(sums, i)
		o, e := Decode(p.Body)
		if p.Seq != i || !slices.Equal(p.Path, path) || e != 0 || !reflect.DeepEqual(o, ops[i]) {
			t.Fatal("packet", i, e)
		}
		if ok, e := Right(root, len(ops), p); !ok || e != 0 {
			t.Fatal("packet", i, "is not right")
		}
		other := p
		other.Body = slices.Clone(p.Body)
		other.Body[dice.N(len(p.Body))] ^= 1 << dice.N(8)
		if ok, _ := Right(root, len(ops), other); ok {
			t.Fatal("another body is right")
		}
		other = p
		other.Seq = (i + 1) % len(ops)
		if ok, _ := Right(root, len(ops), other); ok && len(ops) > 1 {
			t.Fatal("another place is right")
		}
		if ok, _ := Right(root+1, len(ops), p); ok {
			t.Fatal("another root is right")
		}
		if again, e := Decode(p.Body[:len(p.Body)-1]); e != api.ErrForm || again.Runs != nil {
			t.Fatal(e)
		}
		if _, e := Decode(append(slices.Clone(p.Body), 0)); e != api.ErrForm {
			t.Fatal(e)
		}
	}
}

func TestEncode(t *testing.T) {
	run := func(x int, s string) api.Run { return api.Run{X: x, Text: s} }
	for i, x := range []struct {
		o    api.Op
		want api.Errno
	}{
		{api.Op{Page: 1}, 0}, {api.Op{Page: 500, Y: -api.MaxCoord, H: api.MaxCoord, Runs: []api.Run{run(-api.MaxCoord, "a"), run(-api.MaxCoord, "a"), run(api.MaxCoord, strings.Repeat("a", 2000))}}, 0},
		{api.Op{}, api.ErrArg}, {api.Op{Page: 501}, api.ErrArg}, {api.Op{Page: 1, Y: api.MaxCoord + 1}, api.ErrArg}, {api.Op{Page: 1, H: -1}, api.ErrArg}, {api.Op{Page: 1, H: api.MaxCoord + 1}, api.ErrArg},
		{api.Op{Page: 1, Runs: []api.Run{run(0, "")}}, api.ErrArg}, {api.Op{Page: 1, Runs: []api.Run{run(0, "\n")}}, api.ErrArg}, {api.Op{Page: 1, Runs: []api.Run{run(1, "a"), run(0, "a")}}, api.ErrArg},
		{api.Op{Page: 1, Runs: []api.Run{run(api.MaxCoord+1, "a")}}, api.ErrArg}, {api.Op{Page: 1, Runs: slices.Repeat([]api.Run{run(0, "a")}, 501)}, api.ErrArg},
		{api.Op{Page: 1, Runs: slices.Repeat([]api.Run{run(0, "a")}, 500)}, 0}, {api.Op{Page: 1, Runs: slices.Repeat([]api.Run{run(0, "abcdef")}, 499)}, 0},
		{api.Op{Page: 1, Runs: slices.Repeat([]api.Run{run(0, "abcdef")}, 500)}, api.ErrLimit}, {api.Op{Page: 1, Runs: slices.Repeat([]api.Run{run(0, strings.Repeat("a", 1996))}, 2)}, 0},
		{api.Op{Page: 1, Runs: slices.Repeat([]api.Run{run(0, strings.Repeat("a", 1997))}, 2)}, api.ErrLimit},
	} {
		b, e := Encode(x.o)
		if e != x.want || e != 0 && b != nil {
			t.Errorf("case %d: %v", i, e)
		}
		if e == 0 {
			if o, e := Decode(b); e != 0 || !reflect.DeepEqual(o, x.o) {
				t.Errorf("case %d is read as %v, %v", i, o, e)
			}
		}
		if _, _, e2 := Send([]api.Op{x.o}); e2 != e {
			t.Errorf("case %d: %v", i, e2)
		}
	}
	for _, l := range [][]int{{}, {1}, {1, 0, 0}, {0, 0, 0, 0}, {1, 0, 0, 1}, {1, 0, 0, -1}, {1, 0, 0, 501}, {1, 0, 0, 1, 0}, {1, 0, 0, 1, 0, 0}, {1, 0, 0, 1, 0, 1, 10}, {1, 0, 0, 1, 0, 2, 97}, {1, 0, 0, 0, 0}} {
		b, _ := codec.Put(l)
		if o, e := Decode(b); e != api.ErrForm || o.Page != 0 {
			t.Error(l, o, e)
		}
	}
	if _, e := Decode([]byte{2, 128, 0}); e != api.ErrForm {
		t.Error(e)
	}
}

func TestSendRefused(t *testing.T) {
	op := func(page, y int) api.Op { return api.Op{Page: page, Y: y} }
	for i, l := range [][]api.Op{nil, {op(1, 5), op(1, 5)}, {op(1, 5), op(1, 4)}, {op(2, 5), op(1, 6)}, {op(0, 1)}} {
		if p, root, e := Send(l); e != api.ErrArg || p != nil || root != 0 {
			t.Errorf("case %d: %v", i, e)
		}
	}
	var many []api.Op
	for i := range 10001 {
		many = append(many, op(1+i/5000, i%5000))
	}
	if _, _, e := Send(many); e != api.ErrArg {
		t.Error(e)
	}
	p, root, e := Send(many[:10000])
	if ok, e2 := Right(root, 10000, p[9999]); e != 0 || e2 != 0 || !ok || len(p) != 10000 || len(p[0].Path) > 14 {
		t.Error(e, e2)
	}
	for _, n := range []int{0, -1, 10001} {
		if ok, e := Right(root, n, p[0]); e != api.ErrArg || ok {
			t.Error(n, e)
		}
	}
	if ok, e := Right(root, 5, api.Packet{Body: make([]byte, 200001)}); e != api.ErrArg || ok {
		t.Error(e)
	}
	if ok, e := Right(root, 5, api.Packet{Seq: -1, Body: make([]byte, 200000)}); e != 0 || ok {
		t.Error(e)
	}
}
