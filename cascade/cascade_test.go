package cascade

import (
	"reflect"
	"testing"

	"forme/api"
	"forme/sample"
	"forme/selector"
	"forme/value"
)

func reader(w int) api.Reader { return sample.Reader(w, 100) }

func style(t *testing.T, d api.Doc, id int, r api.Reader, parent api.Style, width, box int) api.Style {
	t.Helper()
	s, e := Style(d, id, r, parent, width, box)
	if e != api.OK {
		t.Fatal(e)
	}
	return s
}

func TestExample(t *testing.T) {
	d := sample.Doc("rule 0 text { above: 5; pad: 1; } rule 0 *.2 { above: 50%; $1: 7; } rule 1 * when width < 300 { pad: $1; }",
		sample.Root(), sample.Node(2, 1, api.KindText, 2, "a"))
	s := style(t, d, 2, reader(250), First(), 200, -1)
	if s[api.PropMarginTop] != 100 || s[api.PropVar] != 7 || s[api.PropPad] != 7 {
		t.Error(s)
	}
	if s := style(t, d, 2, reader(300), First(), 200, -1); s[api.PropPad] != 1 {
		t.Error(s)
	}
	if rule, decl, found, e := Winner(d.Nodes, d.Rules, 2, api.PropVar, reader(300), -1); rule != 1 || decl != 1 || !found || e != 0 {
		t.Error(rule, decl, found, e)
	}
	if rule, decl, found, e := Winner(d.Nodes, d.Rules, 1, api.PropVar, reader(300), -1); rule != 0 || decl != 0 || found || e != 0 {
		t.Error(rule, decl, found, e)
	}
}

func TestConditions(t *testing.T) {
	r := api.Reader{Width: 300, Scale: 120, Lang: 2}
	for i, x := range []struct {
		t    api.Term
		box  int
		want bool
	}{
		{api.Term{What: api.WidthBelow, N: 300}, -1, false}, {api.Term{What: api.WidthBelow, N: 301}, -1, true},
		{api.Term{What: api.ScaleBelow, N: 120}, -1, false}, {api.Term{What: api.ScaleBelow, N: 121}, -1, true},
		{api.Term{What: api.BoxBelow, N: 50}, 50, false}, {api.Term{What: api.BoxBelow, N: 51}, 50, true}, {api.Term{What: api.BoxBelow, N: 51}, -1, false},
	} {
		got, e := Holds([]api.Term{x.t}, r, x.box)
		x.t.What++
		other, e2 := Holds([]api.Term{x.t}, r, x.box)
		if got != x.want || other == got && x.box >= 0 || e != 0 || e2 != 0 || (x.t.What == api.BoxFrom && x.box < 0 && other) {
			t.Errorf("case %d: %v, %v", i, got, other)
		}
		both, _ := Holds([]api.Term{{What: api.LangIs, N: 2}, x.t}, r, x.box)
		none, _ := Holds([]api.Term{{What: api.LangIs, N: 1}, x.t}, r, x.box)
		if both != other || none {
			t.Errorf("case %d with a language: %v, %v", i, both, none)
		}
	}
	if ok, e := Holds(nil, r, 0); !ok || e != 0 {
		t.Error("no terms do not hold")
	}
	for i, x := range []struct {
		l   []api.Term
		r   api.Reader
		box int
	}{
		{make([]api.Term, 1), r, 0}, {[]api.Term{{What: api.LangIs, N: 4}}, r, 0}, {nil, api.Reader{}, 0}, {nil, r, -2}, {nil, r, 1000001},
		{[]api.Term{{What: 1}, {What: 1}, {What: 1}, {What: 1}, {What: 1}, {What: 1}, {What: 1}, {What: 1}, {What: 1}}, r, 0},
	} {
		if ok, e := Holds(x.l, x.r, x.box); ok || e != api.ErrArg {
			t.Errorf("case %d: %v", i, e)
		}
	}
}

// slowWinner looks at all rules as the document says.
func slowWinner(d api.Doc, id, prop int, r api.Reader, box int) (int, int, bool) {
	rule, decl, found, layer, weight := 0, 0, false, 0, 0
	for i, x := range d.Rules {
		m, _ := selector.Matches(d.Nodes, x.Tests, id)
		h, _ := Holds(x.When, r, box)
		w, _ := selector.Weight(x.Tests)
		for j, y := range x.Decls {
			if m && h && y.Prop == prop && (!found || x.Layer > layer || x.Layer == layer && w >= weight) {
				rule, decl, found, layer, weight = i, j, true, x.Layer, w
			}
		}
	}
	return rule, decl, found
}

func TestWinnersAndStyles(t *testing.T) {
	for seed := range 300 {
		dice := sample.Roll(seed)
		d := sample.Random(dice)
		r := api.Reader{Width: 200 + dice.N(20), Scale: 90 + dice.N(30), Lang: dice.N(2)}
		id, width, box := d.Nodes[dice.N(len(d.Nodes))].ID, dice.N(400), dice.N(300)-1
		parent := First()
		parent[api.PropVar], parent[api.PropLine], parent[api.PropPad] = 5, 14, 9
		s := style(t, d, id, r, parent, width, box)
		var vars, own [8]int
		copy(vars[:], parent[api.PropVar:])
		copy(own[:], s[api.PropVar:])
		for prop := 1; prop <= api.Props; prop++ {
			rule, decl, found, e := Winner(d.Nodes, d.Rules, id, prop, r, box)
			if x, y, ok := slowWinner(d, id, prop, r, box); x != rule || y != decl || ok != found || e != 0 {
				t.Fatalf("winner of %d: %d, %d, %v; want %d, %d, %v", prop, rule, decl, found, x, y, ok)
			}
			want := First()[prop]
			inherits := prop >= api.PropVar || prop == api.PropFont || prop == api.PropLine || prop == api.PropAlign || prop == api.PropDir
			if inherits {
				want = parent[prop]
			}
			if found {
				v := own
				if prop >= api.PropVar {
					v = vars
				}
				want, _ = value.Eval(d.Rules[rule].Decls[decl].Value, width, r.Scale, v)
				if prop == api.PropAlign {
					want = min(want, 2)
				}
			}
			if s[prop] != want {
				t.Fatalf("property %d is %d, want %d", prop, s[prop], want)
			}
		}
	}
}

func TestOtherRules(t *testing.T) {
	for seed := range 200 {
		dice := sample.Roll(seed + 1000)
		d := sample.Random(dice)
		r := api.Reader{Width: 200 + dice.N(20), Scale: 100}
		id := d.Nodes[dice.N(len(d.Nodes))].ID
		s := style(t, d, id, r, First(), 300, 100)
		wins := map[int]bool{}
		for prop := 1; prop <= api.Props; prop++ {
			if rule, _, found, _ := Winner(d.Nodes, d.Rules, id, prop, r, 100); found {
				wins[rule] = true
			}
		}
		few := d
		few.Rules = nil
		for i, x := range d.Rules {
			if wins[i] {
				few.Rules = append(few.Rules, x)
			}
		}
		if style(t, few, id, r, First(), 300, 100) != s {
			t.Fatal("rules that win nothing play a part")
		}
		more := d
		more.Rules = append(append([]api.Rule{}, d.Rules...), sample.Rules("rule 50 * { top: 77; cut: 1; cut: 78; }")...)
		want := s
		want[api.PropTop], want[api.PropCut] = 77, 78
		if style(t, more, id, r, First(), 300, 100) != want {
			t.Fatal("a stronger rule does not decide, or decides more")
		}
		plain := sample.Doc("rule 0 * { pad: 3; $1: 4; above: $1 * 2; }", d.Nodes...)
		other := api.Reader{Width: 1000, Scale: 200, Lang: 3}
		if style(t, plain, id, r, First(), 300, 100) != style(t, plain, id, other, First(), 7, -1) {
			t.Fatal("the reader plays a part")
		}
	}
}

func TestCuts(t *testing.T) {
	low := "rule 0 * { above: -1000000; below: -1000000; top: -1000000; left: -1000000; side: -5; align: -5; font: -5; cols: -5; span: -5; " +
		"dir: -5; keep: -5; box: -5; head: -5; hide: -5; $1: -1000000 * 2; $8: -1000000 * 2; pad: -5; grow: -5; }"
	s := style(t, sample.Doc(low, sample.Root()), 1, reader(300), First(), 0, -1)
	want := api.Style{}
	want[1], want[2], want[18], want[19], want[14], want[15], want[25], want[32], want[9] = -100000, -100000, -100000, -100000, 1, 1, -1000000, -1000000, 10
	want[11], want[17], want[21], want[23], want[24] = 1, 1, 1, 1, 1
	if s != want {
		t.Errorf("%v, want %v", s, want)
	}
	high := "rule 0 * { above: 1000000; below: 1000000; top: 1000000; left: 1000000; side: 5; align: 5; font: 50; cols: 500; span: 500; " +
		"dir: 5; $1: 1000000 * 2; pad: 500000; grow: 500000; }"
	s = style(t, sample.Doc(high, sample.Root()), 1, reader(300), First(), 0, -1)
	want = api.Style{1: 100000, 2: 100000, 3: 100000, 7: 2, 8: 7, 9: 10, 10: 2, 11: 1, 12: 100000, 14: 64, 15: 64, 18: 100000, 19: 100000, 25: 1000000}
	if s != want {
		t.Errorf("%v, want %v", s, want)
	}
	if First() != (api.Style{9: 10, 14: 1, 15: 1}) {
		t.Error("the first style")
	}
}

func TestErrors(t *testing.T) {
	d := sample.Doc("rule 0 * { pad: 1000000 * 1000 * 2; }", sample.Root())
	good, bad := First(), First()
	bad[0] = 1
	odd := First()
	odd[api.PropDir] = 2
	many := sample.Doc("", sample.Root())
	many.Rules = make([]api.Rule, 1)
	for i, x := range []struct {
		d          api.Doc
		id         int
		r          api.Reader
		parent     api.Style
		width, box int
		e          api.Errno
	}{
		{d, 1, reader(200), good, 0, -1, api.ErrRange},
		{d, 2, reader(200), good, 0, -1, api.ErrNone},
		{d, 0, reader(200), good, 0, -1, api.ErrArg},
		{d, 2, reader(199), good, 0, -1, api.ErrArg},
		{d, 2, reader(200), bad, 0, -1, api.ErrArg},
		{d, 2, reader(200), odd, 0, -1, api.ErrArg},
		{d, 2, reader(200), good, -1, -1, api.ErrArg},
		{d, 2, reader(200), good, 1000001, -1, api.ErrArg},
		{d, 2, reader(200), good, 0, -2, api.ErrArg},
		{many, 2, reader(200), good, 0, -1, api.ErrArg},
		{api.Doc{}, 2, reader(200), good, 0, -1, api.ErrArg},
	} {
		if s, e := Style(x.d, x.id, x.r, x.parent, x.width, x.box); e != x.e || s != (api.Style{}) {
			t.Errorf("case %d: %v", i, e)
		}
		if x.parent == good && x.width == 0 && x.e != api.ErrRange {
			if _, _, found, e := Winner(x.d.Nodes, x.d.Rules, x.id, 1, x.r, x.box); e != x.e || found {
				t.Errorf("winner, case %d: %v", i, e)
			}
		}
	}
	for _, prop := range []int{0, 33} {
		if _, _, _, e := Winner(d.Nodes, d.Rules, 1, prop, reader(200), -1); e != api.ErrArg {
			t.Error(prop, e)
		}
	}
	kept := sample.Doc("rule 0 * { pad: 1; }", sample.Root())
	before := sample.Doc("rule 0 * { pad: 1; }", sample.Root())
	Style(kept, 1, reader(200), good, 0, -1)
	if !reflect.DeepEqual(kept, before) {
		t.Error("the document was changed")
	}
}
