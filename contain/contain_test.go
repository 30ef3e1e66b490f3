package contain

import (
	"slices"
	"testing"

	"forme/api"
	"forme/cascade"
	"forme/sample"
	"forme/tree"
)

const rules = "rule 0 *#1 { pad: 10; box: 1; } rule 0 *#2 { width: 50%; pad: 5; } rule 0 text when box < 300 { above: 100%; }"

func example(more string) api.Doc {
	return sample.Doc(rules+more, sample.Root(), sample.Node(2, 1, api.KindBlock, 0, ""), sample.Node(3, 2, api.KindText, 0, "a"))
}

func TestExample(t *testing.T) {
	d, r := example(""), sample.Reader(300, 100)
	for id, want := range map[int]int{1: 280, 2: 130} {
		if w, e := Inner(d, id, r); w != want || e != 0 {
			t.Errorf("%d: %d, %v", id, w, e)
		}
	}
	if box, w, found, e := Box(d, 3, r); box != 1 || w != 280 || !found || e != 0 {
		t.Error(box, w, found, e)
	}
	if box, w, found, e := Box(d, 1, r); box != 0 || w != 0 || found || e != 0 {
		t.Error(box, w, found, e)
	}
	if s, e := Style(d, 3, r); s[api.PropMarginTop] != 130 || e != 0 {
		t.Error(s, e)
	}
	if s, e := Style(d, 3, sample.Reader(320, 100)); s[api.PropMarginTop] != 0 || e != 0 {
		t.Error(s, e)
	}
	if e := Check(d, r); e != 0 {
		t.Error(e)
	}
	if e := Check(example("rule 0 text { box: 1; }"), r); e != api.ErrCycle {
		t.Error(e)
	}
	if e := Check(example("rule 0 text { box: 1; } rule 0 *#2 { hide: 1; }"), r); e != 0 {
		t.Error(e)
	}
	if e := Check(example("rule 0 text { box: 1; hide: 1; }"), r); e != 0 {
		t.Error(e)
	}
}

// slow finds what is known of a node as the document says it.
func slow(t *testing.T, d api.Doc, id int, r api.Reader) (s api.Style, box, boxWidth, inner int) {
	t.Helper()
	path, _ := tree.Path(d.Nodes, id)
	parent, room, own := cascade.First(), r.Width, true
	nextBox, nextWidth := 0, -1
	for _, up := range path {
		i, _, _ := tree.Find(d.Nodes, up)
		box, boxWidth = nextBox, nextWidth
		var e api.Errno
		if s, e = cascade.Style(d, up, r, parent, room, boxWidth); e != 0 {
			t.Fatal(e)
		}
		parent, inner = s, -1
		own = own && d.Nodes[i].Kind == api.KindBlock
		if !own {
			continue
		}
		w := s[api.PropWidth]
		if w == 0 {
			w = room
		}
		if s[api.PropMax] != 0 {
			w = min(w, s[api.PropMax])
		}
		inner = max(0, max(w, s[api.PropMin])-2*s[api.PropPad])
		room = inner
		if s[api.PropBox] == 1 {
			nextBox, nextWidth = up, inner
		}
	}
	return s, box, boxWidth, inner
}

func TestStyles(t *testing.T) {
	for seed := range 200 {
		dice := sample.Roll(seed)
		d := sample.Random(dice)
		r := api.Reader{Width: 200 + dice.N(20), Scale: 100, Lang: dice.N(2)}
		for _, n := range d.Nodes {
			s, box, boxWidth, inner := slow(t, d, n.ID, r)
			if got, e := Style(d, n.ID, r); got != s || e != 0 {
				t.Fatalf("style of %d: %v, %v; want %v", n.ID, got, e, s)
			}
			b, w, found, e := Box(d, n.ID, r)
			if e != 0 || found != (box != 0) || found && (b != box || w != boxWidth) {
				t.Fatalf("box of %d: %d, %d, %v, %v", n.ID, b, w, found, e)
			}
			got, e := Inner(d, n.ID, r)
			if inner < 0 && e != api.ErrKind || inner >= 0 && (e != 0 || got != inner) {
				t.Fatalf("inner width of %d: %d, %v; want %d", n.ID, got, e, inner)
			}
			path, _ := tree.Path(d.Nodes, n.ID)
			few := d
			few.Nodes = slices.DeleteFunc(slices.Clone(d.Nodes), func(x api.Node) bool { return !slices.Contains(path, x.ID) })
			few.Fonts, few.Breaks = []api.Font{{}}, slices.Repeat([]api.Breaks{{Before: 3, Behind: 2}}, 4)
			for i := range few.Nodes {
				few.Nodes[i].Text = ""
			}
			if other, _ := Style(few, n.ID, r); other != s {
				t.Fatalf("other nodes, texts or fonts play a part for %d", n.ID)
			}
			if e := Check(d, r); e == 0 && s[api.PropBox] == 1 && inner < 0 && !hidden(d, path, r) {
				t.Fatalf("%d is a box without a width", n.ID)
			}
		}
	}
}

func hidden(d api.Doc, path []int, r api.Reader) bool {
	return slices.ContainsFunc(path, func(id int) bool {
		s, _ := Style(d, id, r)
		return s[api.PropHide] == 1
	})
}

func TestErrors(t *testing.T) {
	r := sample.Reader(300, 100)
	d := example("rule 0 *#2 { pad: 1000000 * 1000 * 2; }")
	if _, e := Style(d, 1, r); e != 0 {
		t.Error(e)
	}
	for id := 2; id <= 3; id++ {
		if _, e := Style(d, id, r); e != api.ErrRange {
			t.Error(id, e)
		}
	}
	if _, e := Inner(d, 2, r); e != api.ErrRange {
		t.Error(e)
	}
	if _, e := Inner(d, 3, r); e != api.ErrKind {
		t.Error(e)
	}
	if _, _, _, e := Box(d, 2, r); e != 0 {
		t.Error(e)
	}
	if _, _, _, e := Box(d, 3, r); e != api.ErrRange {
		t.Error(e)
	}
	if e := Check(d, r); e != api.ErrRange {
		t.Error(e)
	}
	if e := Check(example("rule 1 * { hide: 1; } rule 0 *#2 { pad: 1000000 * 1000 * 2; }"), r); e != 0 {
		t.Error(e)
	}
	if e := Check(example("rule 0 *#3 { box: 1; pad: 1000000 * 1000 * 2; }"), r); e != api.ErrRange {
		t.Error(e)
	}
	for id, want := range map[int]api.Errno{0: api.ErrArg, 1000001: api.ErrArg, 9: api.ErrNone} {
		_, e1 := Style(d, id, r)
		_, e2 := Inner(d, id, r)
		if _, _, _, e3 := Box(d, id, r); e1 != want || e2 != want || e3 != want {
			t.Error(id, e1, e2, e3)
		}
	}
	if _, e := Style(d, 9, api.Reader{}); e != api.ErrArg {
		t.Error(e)
	}
	if e := Check(d, api.Reader{}); e != api.ErrArg {
		t.Error(e)
	}
}

func TestValid(t *testing.T) {
	for i, change := range []func(d *api.Doc){
		func(d *api.Doc) { d.Nodes = nil },
		func(d *api.Doc) { d.Rules = make([]api.Rule, 1) },
		func(d *api.Doc) { d.Fonts = nil },
		func(d *api.Doc) { d.Fonts = make([]api.Font, 9) },
		func(d *api.Doc) { d.Fonts[0].Glyphs[0].Advance = -1 },
		func(d *api.Doc) { d.Breaks = d.Breaks[:3] },
		func(d *api.Doc) { d.Breaks = append(d.Breaks, d.Breaks[0]) },
		func(d *api.Doc) { d.Breaks[3].Before = 0 },
	} {
		d := example("")
		change(&d)
		_, e := Style(d, 1, sample.Reader(200, 100))
		if Valid(d) || e != api.ErrArg || Check(d, sample.Reader(200, 100)) != api.ErrArg {
			t.Errorf("change %d leaves a document", i)
		}
	}
	if !Valid(example("")) {
		t.Error("the example is not well-formed")
	}
}
