package layout

import (
	"testing"

	"forme/api"
	"forme/sample"
	"forme/tree"
)

func TestHeld(t *testing.T) {
	d := sample.Doc("", sample.Root())
	var full []api.Held
	for id := range api.MaxPieces {
		full = append(full, api.Held{Node: id + 1, H: 1000000})
	}
	for i, x := range []struct {
		l    []api.Held
		want api.Errno
	}{
		{full, 0}, {append(full, api.Held{Node: 1000000}), api.ErrArg}, {[]api.Held{{Node: 1000000}}, 0}, {[]api.Held{{Node: 0}}, api.ErrArg}, {[]api.Held{{Node: 1000001}}, api.ErrArg}, {[]api.Held{{Node: 1, H: -1}}, api.ErrArg},
		{[]api.Held{{Node: 1, H: 1000001}}, api.ErrArg}, {[]api.Held{{Node: 2}, {Node: 2}}, api.ErrArg}, {[]api.Held{{Node: 2}, {Node: 1}}, api.ErrArg},
	} {
		l, e := Lay(d, sample.Reader(200, 100), x.l)
		o, e2 := Offers(d, sample.Reader(200, 100), x.l)
		if e != x.want || e2 != x.want || e != 0 && (l != nil || o != nil) {
			t.Errorf("case %d: %v, %v", i, e, e2)
		}
	}
}

// high returns the error of a flow in which a piece stands below something.
func high(rules string, kind, above, h int) api.Errno {
	d := sample.Doc(rules, sample.Root(), n(2, 1, kind, ""), n(3, 1, api.KindPiece, ""), n(4, 2, api.KindPiece, ""))
	if kind == api.KindPiece {
		d.Nodes = d.Nodes[:3]
	}
	_, e := Lay(d, sample.Reader(200, 100), []api.Held{{Node: 2, H: above}, {Node: 3, H: h}, {Node: 4, H: above}})
	return e
}

func TestHeights(t *testing.T) {
	const cut = "rule 0 block { cut: 5; } rule 0 *#3 { cut: 7; }"
	for i, x := range []struct {
		rules          string
		kind, above, h int
		want           api.Errno
	}{
		{"", api.KindPiece, 600000, 400000, 0}, {"", api.KindPiece, 600000, 400001, api.ErrRange}, {cut, api.KindPiece, 600000, 400001, 0}, {"rule 0 *#3 { cut: 7; }", api.KindPiece, 999993, 1000000, 0},
		{"rule 0 *#3 { cut: 7; }", api.KindPiece, 999994, 1000000, api.ErrRange}, {"rule 0 *#3 { above: 1; }", api.KindPiece, 1000000, 0, api.ErrRange}, {"rule 0 *#1 { pad: 1; }", api.KindPiece, 600000, 400000, api.ErrRange},
		{"rule 0 *#1 { pad: 1; }", api.KindPiece, 600000, 399998, 0}, {"", api.KindFloat, 1000000, 0, 0}, {"", api.KindFloat, 1000000, 1, api.ErrRange}, {"rule 0 float { pad: 1; }", api.KindFloat, 999998, 0, 0},
		{"rule 0 float { pad: 1; }", api.KindFloat, 999999, 0, api.ErrRange}, {"rule 0 abs { top: 90000; }", api.KindAbs, 1000000, 5, 0}, {"rule 0 abs { pad: 1; }", api.KindAbs, 1000000, 5, api.ErrRange},
		{"rule 0 block { below: 10; } rule 0 *#2 { below: 5; }", api.KindPiece, 999990, 0, 0}, {"rule 0 *#3 { below: 5; }", api.KindPiece, 999990, 6, api.ErrRange},
	} {
		if e := high(x.rules, x.kind, x.above, x.h); e != x.want {
			t.Errorf("case %d: %v", i, e)
		}
	}
}

func TestLowFloats(t *testing.T) {
	for h, want := range map[int]api.Errno{400000: 0, 400001: api.ErrRange} {
		d := sample.Doc("", sample.Root(), n(2, 1, api.KindPiece, ""), n(3, 1, api.KindFloat, ""), n(4, 3, api.KindPiece, ""))
		if _, e := Lay(d, sample.Reader(200, 100), []api.Held{{Node: 2, H: 600000}, {Node: 4, H: h}}); e != want {
			t.Error(h, e)
		}
	}
	// A text that is cut ends where its lines do.
	for h, want := range map[int]api.Errno{900000: 0, 900001: api.ErrRange} {
		d := sample.Doc("rule 0 text { line: 100000; cut: 3; }", sample.Root(), n(2, 1, api.KindPiece, ""), n(3, 1, api.KindText, "a"))
		if _, e := Lay(d, sample.Reader(200, 100), []api.Held{{Node: 2, H: h}}); e != want {
			t.Error(h, e)
		}
	}
}

// TestMany lays out as many items, columns and floats as there may be, and one more.
func TestMany(t *testing.T) {
	for i, x := range []struct {
		kind, kid, most int
	}{{api.KindRow, api.KindBlock, 64}, {api.KindTr, api.KindCell, 64}, {api.KindBlock, api.KindFloat, 200}, {api.KindGrid, api.KindBlock, 1000}} {
		d := sample.Doc("rule 0 float { width: 5; }", sample.Root(), n(2, 1, api.KindTable, ""), n(3, 2, api.KindTr, ""), n(4, 1, x.kind, ""))
		if x.kind == api.KindTr {
			d.Nodes[3].Parent = 2
		}
		for id := range x.most {
			d.Nodes, _ = tree.Insert(d.Nodes, n(10+id, 4, x.kid, ""), 0)
		}
		l, e := Lay(d, sample.Reader(2000, 100), nil)
		if e != 0 || len(l) != len(d.Nodes) {
			t.Errorf("case %d: %v", i, e)
		}
		d.Nodes, _ = tree.Insert(d.Nodes, n(9, 4, x.kid, ""), 0)
		want := api.ErrLimit
		if x.kind == api.KindGrid {
			want = api.OK
		}
		if _, e := Lay(d, sample.Reader(2000, 100), nil); e != want {
			t.Errorf("case %d: %v", i, e)
		}
	}
}

// TestFirstError looks at what is too far down before a table whose columns do not fit.
func TestFirstError(t *testing.T) {
	for _, kind := range []int{api.KindPiece, api.KindFloat} {
		d := sample.Doc("rule 0 cell { pad: 5000; }", sample.Root(), n(2, 1, api.KindPiece, ""), n(3, 1, kind, ""))
		if kind == api.KindFloat {
			d.Nodes = append(d.Nodes, n(4, 3, api.KindPiece, ""))
		}
		d.Nodes = append(d.Nodes, n(5, 1, api.KindTable, ""), n(6, 5, api.KindTr, ""), n(7, 6, api.KindCell, ""))
		for h, want := range map[int]api.Errno{400000: api.ErrFit, 400001: api.ErrRange} {
			if _, e := Lay(d, sample.Reader(200, 100), []api.Held{{Node: 2, H: 600000}, {Node: 3, H: h}, {Node: 4, H: h}}); e != want {
				t.Error(kind, h, e)
			}
		}
	}
}

// TestFonts looks at which nodes need a font, and what of it.
func TestFonts(t *testing.T) {
	without := func(b byte) api.Font {
		f := sample.Font()
		f.Glyphs = append(f.Glyphs[:b-32:b-32], f.Glyphs[b-31:]...)
		return f
	}
	for i, x := range []struct {
		rules, text string
		f           api.Font
		want        api.Errno
	}{
		{"", "a~b", sample.Font(), 0}, {"", "a~b", without('b'), api.ErrGlyph}, {"", "a~b", without('-'), api.ErrGlyph}, {"", "ab", without('-'), 0}, {"", "~ab", without('-'), 0}, {"rule 0 text { hide: 1; }", "a~b", without('b'), 0},
		{"rule 0 block { font: 7; } rule 0 text { font: 0; }", "a~b", sample.Font(), 0}, {"rule 0 block { font: 1; }", "a~b", sample.Font(), api.ErrGlyph}, {"rule 0 text { font: 1; }", "", sample.Font(), api.ErrGlyph},
		{"rule 0 text { font: 1; hide: 1; }", "", sample.Font(), 0},
	} {
		d := sample.Doc(x.rules, sample.Root(), n(2, 1, api.KindText, x.text))
		d.Fonts[0] = x.f
		if _, e := Lay(d, sample.Reader(200, 100), nil); e != x.want {
			t.Errorf("case %d: %v", i, e)
		}
	}
}
