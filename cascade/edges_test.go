package cascade

import (
	"slices"
	"testing"

	"forme/api"
	"forme/sample"
)

func TestTerms(t *testing.T) {
	r := api.Reader{Width: 300, Scale: 120, Lang: 2}
	for what, at := range map[int]int{api.WidthBelow: 300, api.ScaleBelow: 120, api.BoxBelow: 50} {
		for n, below := range map[int]bool{at - 1: false, at: false, at + 1: true} {
			a, e := Holds([]api.Term{{What: what, N: n}}, r, 50)
			b, e2 := Holds([]api.Term{{What: what + 1, N: n}}, r, 50)
			if a != below || b == below || e != 0 || e2 != 0 {
				t.Error(what, n, a, b)
			}
		}
	}
	for box, want := range map[int][2]bool{-1: {false, false}, 0: {true, false}, 1: {false, true}} {
		a, _ := Holds([]api.Term{{What: api.BoxBelow, N: 1}}, r, box)
		b, _ := Holds([]api.Term{{What: api.BoxFrom, N: 1}}, r, box)
		if a != want[0] || b != want[1] {
			t.Error(box, a, b)
		}
	}
	if ok, _ := Holds([]api.Term{{What: api.BoxFrom}}, r, 0); !ok {
		t.Error("a box of no width")
	}
	for n := range 4 {
		if ok, _ := Holds([]api.Term{{What: api.LangIs, N: n}}, r, -1); ok != (n == 2) {
			t.Error("language", n)
		}
	}
	for i, x := range []struct {
		l    []api.Term
		r    api.Reader
		box  int
		want api.Errno
	}{
		{slices.Repeat([]api.Term{{What: 1}}, 8), r, 1000000, 0}, {slices.Repeat([]api.Term{{What: 1}}, 9), r, 0, api.ErrArg}, {[]api.Term{{}}, r, 0, api.ErrArg}, {nil, api.Reader{}, 0, api.ErrArg},
		{nil, r, -2, api.ErrArg}, {nil, r, 1000001, api.ErrArg}, {nil, r, -1, 0},
	} {
		if ok, e := Holds(x.l, x.r, x.box); e != x.want || e != 0 && ok {
			t.Errorf("case %d: %v, %v", i, ok, e)
		}
	}
}

func TestVariables(t *testing.T) {
	d := sample.Doc("rule 0 * { $1: $1 + 1; $2: $1; pad: $1; least: $2; }", sample.Root(), sample.Node(1000000, 1, api.KindBlock, 0, ""))
	parent := First()
	parent[api.PropVar] = 5
	s := style(t, d, 1000000, reader(200), parent, 1000000, 1000000)
	if s[api.PropVar] != 6 || s[api.PropVar+1] != 5 || s[api.PropPad] != 6 || s[api.PropMin] != 5 {
		t.Error(s)
	}
}

func TestRefusedArguments(t *testing.T) {
	d := sample.Doc("rule 0 * { pad: 5; }", sample.Root())
	for i, x := range []struct {
		nodes    []api.Node
		id, prop int
		box      int
		want     api.Errno
	}{
		{d.Nodes, 1, 32, -1, 0}, {d.Nodes, 1, 0, -1, api.ErrArg}, {d.Nodes, 1, 33, -1, api.ErrArg}, {d.Nodes, 0, 3, -1, api.ErrArg}, {d.Nodes, 1000001, 3, -1, api.ErrArg}, {d.Nodes, 1000000, 3, -1, api.ErrNone},
		{nil, 1, 3, -1, api.ErrArg}, {d.Nodes, 1, 3, -2, api.ErrArg}, {d.Nodes, 1, 3, 1000001, api.ErrArg},
	} {
		rule, decl, found, e := Winner(x.nodes, d.Rules, x.id, x.prop, reader(200), x.box)
		if e != x.want || rule != 0 || decl != 0 || found {
			t.Errorf("case %d: %d, %d, %v, %v", i, rule, decl, found, e)
		}
	}
	for prop := range First() {
		parent := First()
		parent[prop] = 1000001
		if s, e := Style(d, 1, reader(200), parent, 0, 0); e != api.ErrArg || s != (api.Style{}) {
			t.Error(prop, e)
		}
	}
	nothing := First()
	nothing[0] = 1
	if _, e := Style(d, 1, reader(200), nothing, 0, 0); e != api.ErrArg {
		t.Error(e)
	}
	for width, want := range map[int]api.Errno{-1: api.ErrArg, 0: 0, 1000000: 0, 1000001: api.ErrArg} {
		if _, e := Style(d, 1, reader(200), First(), width, -1); e != want {
			t.Error(width, e)
		}
	}
	if s, e := Style(d, 2, reader(200), First(), 5, -1); e != api.ErrNone || s != (api.Style{}) {
		t.Error(e)
	}
}

// mayBe returns the least and the greatest value of a property, as the chapter lists them.
func mayBe(prop int) (low, high int) {
	switch prop {
	case 0:
		return 0, 0
	case api.PropMarginTop, api.PropMarginBottom, api.PropTop, api.PropLeft:
		return -100000, 100000
	case api.PropSide, api.PropAlign:
		return 0, 2
	case api.PropFont:
		return 0, 7
	case api.PropCols, api.PropSpan:
		return 1, 64
	case api.PropDir, api.PropKeep, api.PropBox, api.PropHead, api.PropHide:
		return 0, 1
	}
	if prop >= api.PropVar {
		return -1000000, 1000000
	}
	return 0, 100000
}

func TestEveryCut(t *testing.T) {
	number := func(n int) api.Expr { return api.Expr{Op: api.OpNumber, N: n} }
	for prop := 1; prop <= api.Props; prop++ {
		low, high := mayBe(prop)
		for _, v := range []int{-2000000, low - 2, low - 1, low, low + 1, high - 1, high, high + 1, high + 2, 2000000} {
			want := min(max(v, low), high)
			if low == 0 && high == 1 && v != 0 {
				want = 1
			}
			sum := api.Expr{Op: api.OpSum, Kids: []api.Expr{number(v / 2), number(v - v/2)}}
			d := sample.Doc("", sample.Root())
			d.Rules = []api.Rule{{Tests: []api.Test{{}}, Decls: []api.Decl{{Prop: prop, Value: sum}}}}
			s := style(t, d, 1, reader(200), First(), 0, -1)
			if s[prop] != want {
				t.Errorf("property %d: %d is cut to %d, want %d", prop, v, s[prop], want)
			}
			s[prop] = First()[prop]
			if s != First() {
				t.Errorf("property %d: %d decides others, too", prop, v)
			}
		}
	}
}

func TestEveryParent(t *testing.T) {
	d := sample.Doc("", sample.Root())
	for prop := range First() {
		low, high := mayBe(prop)
		for v, want := range map[int]api.Errno{low - 1: api.ErrArg, low: 0, high: 0, high + 1: api.ErrArg} {
			parent := First()
			parent[prop] = v
			if _, e := Style(d, 1, reader(200), parent, 0, -1); e != want {
				t.Errorf("property %d of the parent is %d: %v, want %v", prop, v, e, want)
			}
		}
	}
}
