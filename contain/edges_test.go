package contain

import (
	"slices"
	"testing"

	"forme/api"
	"forme/sample"
)

func TestNarrow(t *testing.T) {
	d := sample.Doc("rule 0 *#1 { pad: 100; box: 1; } rule 0 *#2 { pad: 1; least: 3; } rule 1 *#4 { above: 1; } rule 2 *#4 when box < 1 { above: 9; } rule 3 *#4 when box >= 1 { above: 8; }",
		sample.Root(), sample.Node(2, 1, api.KindBlock, 0, ""), sample.Node(3, 1, api.KindRow, 0, ""), sample.Node(4, 3, api.KindBlock, 0, ""), sample.Node(1000000, 4, api.KindBlock, 0, ""))
	for width, want := range map[int][3]int{200: {0, 1, 9}, 201: {1, 1, 8}, 205: {5, 3, 8}} {
		r := sample.Reader(width, 100)
		root, e := Inner(d, 1, r)
		kid, e2 := Inner(d, 2, r)
		s, e3 := Style(d, 4, r)
		if root != want[0] || kid != want[1] || s[api.PropMarginTop] != want[2] || e != 0 || e2 != 0 || e3 != 0 {
			t.Error(width, root, kid, s[api.PropMarginTop], e, e2, e3)
		}
		if box, w, found, e := Box(d, 1000000, r); box != 1 || w != want[0] || !found || e != 0 {
			t.Error(box, w, found, e)
		}
	}
}

func TestErrorsOfIDs(t *testing.T) {
	d := sample.Doc("rule 0 *#2 { pad: 1000000 * 1000 * 2; }", sample.Root(), sample.Node(2, 1, api.KindBlock, 0, ""), sample.Node(3, 1, api.KindText, 0, ""), sample.Node(4, 2, api.KindBlock, 0, ""))
	r := sample.Reader(200, 100)
	for i, x := range []struct {
		d    api.Doc
		id   int
		r    api.Reader
		want [3]api.Errno
	}{
		{d, 1, r, [3]api.Errno{0, 0, 0}}, {d, 2, r, [3]api.Errno{api.ErrRange, api.ErrRange, 0}}, {d, 3, r, [3]api.Errno{0, api.ErrKind, 0}}, {d, 4, r, [3]api.Errno{api.ErrRange, api.ErrRange, api.ErrRange}},
		{d, 5, r, [3]api.Errno{api.ErrNone, api.ErrNone, api.ErrNone}}, {d, 1000000, r, [3]api.Errno{api.ErrNone, api.ErrNone, api.ErrNone}}, {d, 0, r, [3]api.Errno{api.ErrArg, api.ErrArg, api.ErrArg}},
		{d, 1000001, r, [3]api.Errno{api.ErrArg, api.ErrArg, api.ErrArg}}, {d, 1, api.Reader{}, [3]api.Errno{api.ErrArg, api.ErrArg, api.ErrArg}}, {api.Doc{}, 1, r, [3]api.Errno{api.ErrArg, api.ErrArg, api.ErrArg}},
	} {
		s, e := Style(x.d, x.id, x.r)
		w, e2 := Inner(x.d, x.id, x.r)
		box, width, found, e3 := Box(x.d, x.id, x.r)
		if [3]api.Errno{e, e2, e3} != x.want || e != 0 && s != (api.Style{}) || e2 != 0 && w != 0 || box != 0 || width != 0 || found {
			t.Errorf("case %d: %v, %v, %v", i, e, e2, e3)
		}
	}
	if e := Check(d, r); e != api.ErrRange {
		t.Error(e)
	}
}

func TestWellFormed(t *testing.T) {
	good := func() api.Doc { return sample.Doc("rule 0 * { }", sample.Root()) }
	for i, change := range []func(d *api.Doc){
		func(d *api.Doc) { d.Fonts = nil }, func(d *api.Doc) { d.Fonts = slices.Repeat(d.Fonts, 9) }, func(d *api.Doc) { d.Fonts[0].Glyphs[0].Byte = 5 }, func(d *api.Doc) { d.Breaks = d.Breaks[:3] },
		func(d *api.Doc) { d.Breaks = append(d.Breaks, d.Breaks[0]) }, func(d *api.Doc) { d.Breaks[3].Before = 0 }, func(d *api.Doc) { d.Nodes = nil }, func(d *api.Doc) { d.Rules[0].Tests = nil },
	} {
		d := good()
		change(&d)
		if Valid(d) || Check(d, sample.Reader(200, 100)) != api.ErrArg {
			t.Errorf("case %d", i)
		}
	}
	d := good()
	d.Fonts = slices.Repeat(d.Fonts, 8)
	if !Valid(d) || !Valid(good()) {
		t.Error("well-formed documents")
	}
}
