package reads

import (
	"reflect"
	"slices"
	"testing"

	"forme/api"
	"forme/cascade"
	"forme/contain"
	"forme/edit"
	"forme/layout"
	"forme/sample"
	"forme/tree"
)

func example() api.Doc {
	return sample.Doc("rule 0 text when width < 300 { hide: 1; }", sample.Root(), sample.Node(2, 1, api.KindText, 0, "ab"), sample.Node(3, 1, api.KindText, 0, ""))
}

func in(kind, a, b int) api.Input { return api.Input{Kind: kind, A: a, B: b} }

func reads(t *testing.T, d api.Doc, r api.Reader) []api.Input {
	t.Helper()
	l, e := Reads(d, r)
	if e != api.OK {
		t.Fatal(e)
	}
	return l
}

func TestExample(t *testing.T) {
	d := example()
	want := []api.Input{in(1, 1, 0), in(1, 2, 0), in(1, 3, 0), in(2, 1, 0), in(2, 2, 0), in(2, 3, 0), in(4, 0, 'a'), in(4, 0, 'b'), in(5, 0, 0)}
	if l := reads(t, d, sample.Reader(400, 100)); !slices.Equal(l, want) {
		t.Error(l)
	}
	want = []api.Input{in(1, 1, 0), in(1, 2, 0), in(1, 3, 0), in(2, 1, 0), in(3, 0, 0)}
	if l := reads(t, d, sample.Reader(200, 100)); !slices.Equal(l, want) {
		t.Error(l)
	}
	d.Nodes[1].Text = "a~b c"
	d.Rules = sample.Rules("rule 0 text when box < 5 and lang 2 { font: 1; } rule 0 *#9 { pad: 1; } rule 0 * when lang 1 { pad: 1; } rule 3 text { font: 7; }")
	want = []api.Input{in(1, 1, 0), in(1, 2, 0), in(1, 3, 0), in(2, 1, 0), in(2, 2, 0), in(2, 3, 0), in(3, 0, 0), in(3, 3, 0), in(5, 2, 0)}
	if l := reads(t, d, api.Reader{Width: 200, Scale: 100, Lang: 2}); !slices.Equal(l, want) {
		t.Error(l)
	}
	d.Rules = nil
	want = []api.Input{in(1, 1, 0), in(1, 2, 0), in(1, 3, 0), in(2, 1, 0), in(2, 2, 0), in(2, 3, 0), in(4, 0, ' '), in(4, 0, '-'), in(4, 0, 'a'), in(4, 0, 'b'), in(4, 0, 'c'), in(5, 2, 0)}
	if l := reads(t, d, api.Reader{Width: 200, Scale: 100, Lang: 2}); !slices.Equal(l, want) {
		t.Error(l)
	}
	d.Rules = sample.Rules("rule 0 *#1 { pad: 1000 * 1000 * 1000 * 1000; }")
	if l := reads(t, d, sample.Reader(200, 100)); !slices.Equal(l, []api.Input{in(1, 1, 0), in(3, 0, 0)}) {
		t.Error(l)
	}
}

func TestTouches(t *testing.T) {
	d := sample.Doc("rule 0 * { }", sample.Root(), sample.Node(2, 1, api.KindBlock, 0, ""), sample.Node(3, 2, api.KindText, 0, "a"), sample.Node(4, 1, api.KindBlock, 0, ""))
	for i, x := range []struct {
		e    api.Edit
		want []api.Input
	}{
		{api.Edit{Kind: api.EditInsert, Node: sample.Node(9, 2, api.KindText, 0, "")}, []api.Input{in(1, 9, 0), in(2, 2, 0)}},
		{api.Edit{Kind: api.EditRemove, ID: 2}, []api.Input{in(1, 2, 0), in(1, 3, 0), in(2, 1, 0)}},
		{api.Edit{Kind: api.EditMove, ID: 3, Parent: 4}, []api.Input{in(1, 3, 0), in(2, 2, 0), in(2, 4, 0)}},
		{api.Edit{Kind: api.EditMove, ID: 3, Parent: 2}, []api.Input{in(1, 3, 0), in(2, 2, 0)}},
		{api.Edit{Kind: api.EditText, ID: 3}, []api.Input{in(1, 3, 0)}},
		{api.Edit{Kind: api.EditClass, ID: 4}, []api.Input{in(1, 4, 0)}},
		{api.Edit{Kind: api.EditRule, At: 1, Rule: sample.Rules("rule 0 * { }")[0]}, []api.Input{in(3, 1, 0)}},
		{api.Edit{Kind: api.EditDrop}, []api.Input{in(3, 0, 0)}},
		{api.Edit{Kind: api.EditAdvance, Byte: 'x'}, []api.Input{in(4, 0, 'x')}},
	} {
		x.e.Clock, x.e.Editor = 1, 1
		if l, e := Touches(d, x.e); e != 0 || !slices.Equal(l, x.want) {
			t.Errorf("case %d: %v, %v", i, l, e)
		}
	}
	if l, e := Touches(d, api.Edit{Clock: 1, Editor: 1, Kind: api.EditRemove, ID: 1}); e != api.ErrParent || l != nil {
		t.Error(e)
	}
	if _, e := Touches(d, api.Edit{}); e != api.ErrArg {
		t.Error(e)
	}
	if _, e := Reads(api.Doc{}, sample.Reader(200, 100)); e != api.ErrArg {
		t.Error(e)
	}
	if _, e := Reads(d, api.Reader{}); e != api.ErrArg {
		t.Error(e)
	}
}

func TestMeet(t *testing.T) {
	a := []api.Input{in(1, 5, 0), in(4, 7, 125), in(5, 3, 0)}
	for i, x := range []struct {
		b    []api.Input
		want bool
		e    api.Errno
	}{
		{nil, false, 0}, {[]api.Input{in(2, 5, 0), in(3, 200, 0)}, false, 0}, {[]api.Input{in(2, 5, 0), in(5, 3, 0)}, true, 0}, {[]api.Input{in(4, 7, 124)}, false, 0},
		{[]api.Input{in(1, 5, 0), in(0, 1, 0)}, false, api.ErrArg}, {[]api.Input{in(6, 1, 0)}, false, api.ErrArg}, {[]api.Input{in(1, 0, 0)}, false, api.ErrArg},
		{[]api.Input{in(2, 1000001, 0)}, false, api.ErrArg}, {[]api.Input{in(1, 1, 1)}, false, api.ErrArg}, {[]api.Input{in(3, 201, 0)}, false, api.ErrArg},
		{[]api.Input{in(3, -1, 0)}, false, api.ErrArg}, {[]api.Input{in(4, 8, 50)}, false, api.ErrArg}, {[]api.Input{in(4, 0, 31)}, false, api.ErrArg},
		{[]api.Input{in(4, 0, 126)}, false, api.ErrArg}, {[]api.Input{in(5, 4, 0)}, false, api.ErrArg}, {[]api.Input{in(5, 0, 1)}, false, api.ErrArg},
	} {
		m, e := Meet(a, x.b)
		n, e2 := Meet(x.b, a)
		if m != x.want || n != x.want || e != x.e || e2 != x.e {
			t.Errorf("case %d: %v, %v", i, m, e)
		}
	}
}

func meet(t *testing.T, a, b []api.Input) bool {
	t.Helper()
	ok, e := Meet(a, b)
	if e != api.OK {
		t.Fatal(e)
	}
	return ok
}

func TestSound(t *testing.T) {
	missed := 0
	for seed := range 3000 {
		dice := sample.Roll(seed)
		d := sample.Random(dice)
		e := sample.Edit(dice, d)
		touched, no := Touches(d, e)
		if no != api.OK {
			continue
		}
		after, _ := edit.Apply(d, e)
		nothingElse(t, d, after, touched)
		for range 4 {
			r := api.Reader{Width: 200 + dice.N(20), Scale: 95 + dice.N(20), Lang: dice.N(2)}
			a, b := reads(t, d, r), reads(t, after, r)
			hidden(t, d, r, a)
			if meet(t, touched, a) || meet(t, touched, b) {
				continue
			}
			missed++
			p, no := layout.Lay(d, r, nil)
			q, no2 := layout.Lay(after, r, nil)
			if no != no2 || !reflect.DeepEqual(p, q) {
				t.Fatalf("seed %d: %v reaches %v", seed, e, r)
			}
			if e.Kind != api.EditDrop && !slices.Equal(a, b) {
				t.Fatalf("seed %d: %v changes what is read", seed, e)
			}
		}
	}
	if missed < 500 {
		t.Error("too few edits reach nobody", missed)
	}
}

// nothingElse looks whether what an edit does not touch is as before.
func nothingElse(t *testing.T, d, after api.Doc, touched []api.Input) {
	t.Helper()
	for _, n := range append(slices.Clone(d.Nodes), after.Nodes...) {
		i, was, _ := tree.Find(d.Nodes, n.ID)
		j, is, _ := tree.Find(after.Nodes, n.ID)
		if !slices.Contains(touched, in(api.InNode, n.ID, 0)) && (!was || !is || d.Nodes[i] != after.Nodes[j]) {
			t.Fatalf("node %d", n.ID)
		}
		if was && is && !slices.Contains(touched, in(api.InKids, n.ID, 0)) {
			a, _ := tree.Kids(d.Nodes, n.ID)
			b, _ := tree.Kids(after.Nodes, n.ID)
			if !slices.Equal(a, b) {
				t.Fatalf("children of %d", n.ID)
			}
		}
	}
	for f := range d.Fonts {
		for i, g := range d.Fonts[f].Glyphs {
			if g != after.Fonts[f].Glyphs[i] && !slices.Contains(touched, in(api.InGlyph, f, int(g.Byte))) {
				t.Fatalf("glyph %d", g.Byte)
			}
		}
	}
	for at := range min(len(d.Rules), len(after.Rules)) {
		if slices.Contains(touched, in(api.InRule, at, 0)) {
			break
		}
		if !reflect.DeepEqual(d.Rules[at], after.Rules[at]) {
			t.Fatalf("rule %d", at)
		}
	}
}

// hidden looks whether nothing is read below a hidden node, and no rule that asks for other readers.
func hidden(t *testing.T, d api.Doc, r api.Reader, l []api.Input) {
	t.Helper()
	for _, n := range d.Nodes {
		path, _ := tree.Path(d.Nodes, n.ID)
		closed := false
		for _, id := range path[:len(path)-1] {
			s, e := contain.Style(d, id, r)
			closed = closed || e != 0 || s[api.PropHide] == 1
		}
		if slices.Contains(l, in(api.InNode, n.ID, 0)) == closed {
			t.Fatalf("node %d is read: %v", n.ID, !closed)
		}
	}
	for at, x := range d.Rules {
		for _, term := range x.When {
			ok, _ := cascade.Holds([]api.Term{term}, r, -1)
			if term.What < api.BoxBelow && !ok && slices.Contains(l, in(api.InRule, at, 0)) {
				t.Fatalf("rule %d is read", at)
			}
		}
	}
}
