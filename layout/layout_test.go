package layout

import (
	"fmt"
	"reflect"
	"slices"
	"strings"
	"testing"

	"forme/api"
	"forme/contain"
	"forme/sample"
	"forme/stack"
)

const (
	block = api.KindBlock
	words = api.KindText
)

func n(id, parent, kind int, s string) api.Node { return sample.Node(id, parent, kind, 0, s) }

func lay(t *testing.T, d api.Doc, r api.Reader, held ...api.Held) []api.Box {
	t.Helper()
	l, e := Lay(d, r, held)
	if e != api.OK {
		t.Fatal(e)
	}
	return l
}

// written writes a page in short.
func written(l []api.Box) string {
	var s []string
	for _, b := range l {
		w := fmt.Sprint(b.Node, ":", b.X, ",", b.Y, ",", b.W, ",", b.H)
		if b.Cut {
			w += "!"
		}
		for _, x := range b.Lines {
			w += fmt.Sprint("[", x.Text, " ", x.X, ",", x.Y, ",", x.W, ",", x.H, "]")
		}
		s = append(s, strings.ReplaceAll(w, " ", ""))
	}
	return strings.Join(s, " ")
}

func TestPages(t *testing.T) {
	r := sample.Reader(200, 100)
	for i, x := range []struct {
		rules string
		nodes []api.Node
		held  []api.Held
		want  string
	}{
		{"rule 0 *#1 { pad: 5; } rule 0 *#2 { width: 20; }",
			[]api.Node{n(2, 1, api.KindFloat, ""), n(3, 2, api.KindPiece, ""), n(4, 1, words, "ab cd")}, []api.Held{{Node: 3, H: 12}},
			"1:0,0,200,22 2:5,5,20,12 3:5,5,20,12 4:5,5,190,10[abcd25,5,50,10]"},
		// Margins are joined; a block goes below floats, a text beside them.
		{"rule 0 *#2 { below: 7; above: 4; } rule 0 *#3 { above: -3; } rule 0 *#4 { side: 2; least: 40; pad: 6; } rule 0 *#6 { above: 1; width: 30; most: 25; pad: 2; }",
			[]api.Node{n(2, 1, words, "ab"), n(3, 1, words, "cd"), n(4, 1, api.KindFloat, ""), n(5, 1, words, "ef"), n(6, 1, block, "")}, nil,
			"1:0,0,200,44 2:0,4,200,10[ab0,4,20,10] 3:0,18,200,10[cd0,18,20,10] 4:134,28,66,12 5:0,28,200,10[ef0,28,20,10] 6:0,40,25,4"},
		// A positioned box changes nothing, a note and a piece stand in the flow.
		{"rule 0 *#2 { top: -3; left: 9; width: 50%; pad: 1; } rule 0 piece { pad: 9; below: 5; cut: 7; }",
			[]api.Node{n(2, 1, api.KindAbs, ""), n(3, 2, words, "a"), n(4, 1, api.KindPiece, ""), n(5, 1, api.KindNote, "b")}, []api.Held{{Node: 4, H: 8}},
			"1:0,0,200,22 2:9,-3,100,12 3:10,-2,98,10[a10,-2,10,10] 4:0,0,200,7! 5:0,12,200,10[b0,12,10,10]"},
		{"rule 0 *#2 { cols: 3; gap: 5; pad: 1; } rule 0 *#4 { span: 2; width: 20; } rule 0 *#6 { left: 2; width: 10; }",
			[]api.Node{n(2, 1, api.KindGrid, ""), n(3, 2, words, "ab cdefgh"), n(4, 2, block, ""), n(5, 2, words, "x"), n(6, 2, api.KindAbs, "")}, nil,
			"1:0,0,200,37 2:0,0,200,37 3:1,1,62,20[ab1,1,20,10][cdefgh1,11,60,10] 4:68,1,20,0 5:1,26,62,10[x1,26,10,10] 6:3,1,10,0"},
		{"rule 0 *#2 { gap: 10; align: 1; } rule 0 *#3 { basis: 30; } rule 0 *#4 { basis: 40; width: 20; pad: 4; align: 0; }",
			[]api.Node{n(2, 1, api.KindRow, ""), n(3, 2, words, "ab"), n(4, 2, block, ""), n(5, 4, words, "c")}, nil,
			"1:0,0,200,18 2:0,0,200,18 3:60,0,30,10[ab70,0,20,10] 4:100,0,20,18 5:104,4,12,10[c104,4,10,10]"},
		{"", []api.Node{n(2, 1, api.KindRow, ""), n(3, 2, words, "ab"), n(4, 2, words, "cd"), n(5, 2, words, "ef")}, nil,
			"1:0,0,200,10 2:0,0,200,10 3:0,0,66,10[ab0,0,20,10] 4:66,0,66,10[cd66,0,20,10] 5:132,0,66,10[ef132,0,20,10]"},
		{"rule 0 *#2 { gap: 4; pad: 3; } rule 0 cell { pad: 2; cut: 1; } rule 0 text { cut: 5; }",
			[]api.Node{n(2, 1, api.KindTable, ""), n(3, 2, api.KindTr, ""), n(4, 3, api.KindCell, ""), n(5, 4, words, "ab cd"), n(6, 3, api.KindCell, ""), n(7, 2, api.KindTr, ""), n(8, 2, api.KindTr, ""), n(9, 8, api.KindCell, ""), n(10, 9, block, ""), n(11, 10, words, " abcdef ")}, nil,
			"1:0,0,200,32 2:0,0,200,32 3:3,3,194,9 4:3,3,64,9 5:5,5,60,5![abcd5,5,50,10] 6:71,3,4,9 7:3,16,194,0 8:3,20,194,9 9:3,20,64,9 10:5,22,60,5 11:5,22,60,5![abcdef5,22,60,10]"},
		{"rule 0 *#2 { gap: 4; }", []api.Node{n(2, 1, api.KindTable, ""), n(3, 2, api.KindTr, ""), n(4, 2, api.KindTr, "")}, nil,
			"1:0,0,200,0 2:0,0,200,0 3:0,0,200,0 4:0,0,200,0"},
		{"rule 0 * { hide: 1; }", []api.Node{n(2, 1, words, "a")}, nil, ""},
		{"rule 0 *#2 { pad: 3; } rule 0 *#1 { cut: 4; }", []api.Node{n(2, 1, api.KindRow, ""), n(3, 1, api.KindGrid, "")}, nil, "1:0,0,200,4! 2:0,0,200,6 3:0,6,200,0"},
	} {
		d := sample.Doc(x.rules, append([]api.Node{sample.Root()}, x.nodes...)...)
		if got := written(lay(t, d, r, x.held...)); got != x.want {
			t.Errorf("page %d:\n%s, want\n%s", i, got, x.want)
		}
	}
}

func TestTexts(t *testing.T) {
	d := sample.Doc("rule 0 text { line: 7; font: 1; dir: 1; }", sample.Root(), n(2, 1, words, "ab~cd CD"))
	wide := sample.Font()
	wide.Glyphs['a'-32].Advance = 30
	d.Fonts = append(d.Fonts, wide)
	d.Breaks[2].Before = 3
	// At 150 percent the text is 135 wide, and a line 11 high.
	if got := written(lay(t, d, api.Reader{Width: 200, Scale: 150})); got != "1:0,0,200,11 2:0,0,200,11[DCabcd65,0,135,11]" {
		t.Error(got)
	}
	d.Rules = sample.Rules("rule 0 text { font: 1; } rule 0 *#1 { width: 55; }")
	if got := written(lay(t, d, api.Reader{Width: 200, Scale: 100})); got != "1:0,0,55,20 2:0,0,55,20[ab-0,0,50,10][cdDC0,10,50,10]" {
		t.Error(got)
	}
	if got := written(lay(t, d, api.Reader{Width: 200, Scale: 100, Lang: 2})); got != "1:0,0,55,20 2:0,0,55,20[abcd0,0,60,10][DC0,10,20,10]" {
		t.Error(got)
	}
}

func TestErrors(t *testing.T) {
	r := sample.Reader(200, 100)
	root := sample.Root()
	floats := []api.Node{root}
	items := []api.Node{root, n(2, 1, api.KindRow, "")}
	cells := []api.Node{root, n(2, 1, api.KindTable, ""), n(3, 2, api.KindTr, "")}
	for i := range 201 {
		floats = append(floats, n(10+i, 1, api.KindFloat, ""))
	}
	for i := range 65 {
		items = append(items, n(10+i, 2, block, ""))
		cells = append(cells, n(10+i, 3, api.KindCell, ""))
	}
	tall := make([]api.Node, 0)
	tall = append(tall, root)
	for i := range 12 {
		tall = append(tall, n(10+i, 1, block, ""))
	}
	table := []api.Node{root, n(2, 1, api.KindTable, ""), n(3, 2, api.KindTr, ""), n(4, 3, api.KindCell, ""), n(5, 4, words, "abcdef")}
	noDash := sample.Font()
	noDash.Glyphs = slices.DeleteFunc(noDash.Glyphs, func(g api.Glyph) bool { return g.Byte == '-' })
	for i, x := range []struct {
		rules string
		nodes []api.Node
		font  api.Font
		held  []api.Held
		want  api.Errno
	}{
		{"", []api.Node{root}, sample.Font(), []api.Held{{Node: 9, H: 1000000}}, api.OK},
		{"", []api.Node{root}, sample.Font(), []api.Held{{Node: 0}}, api.ErrArg},
		{"", []api.Node{root}, sample.Font(), []api.Held{{Node: 2}, {Node: 2}}, api.ErrArg},
		{"", []api.Node{root}, sample.Font(), []api.Held{{Node: 2, H: -1}}, api.ErrArg},
		{"", []api.Node{root}, sample.Font(), []api.Held{{Node: 2, H: 1000001}}, api.ErrArg},
		{"", []api.Node{root}, sample.Font(), make([]api.Held, 65), api.ErrArg},
		{"", nil, sample.Font(), nil, api.ErrArg},
		{"rule 0 text { box: 1; font: 1; }", table, sample.Font(), nil, api.ErrCycle},
		{"rule 0 text { pad: 1000000 * 1000 * 2; }", table, sample.Font(), nil, api.ErrRange},
		{"rule 0 text { font: 1; }", table, sample.Font(), nil, api.ErrGlyph},
		{"rule 0 *#4 { hide: 1; } rule 0 text { font: 1; }", table, sample.Font(), nil, api.OK},
		{"", table, api.Font{}, nil, api.ErrGlyph},
		{"", []api.Node{root, n(2, 1, words, "a~b")}, noDash, nil, api.ErrGlyph},
		{"", []api.Node{root, n(2, 1, words, "a~ b")}, noDash, nil, api.OK},
		{"rule 0 *#1 { width: 59; }", table, sample.Font(), nil, api.ErrFit},
		{"rule 0 *#1 { width: 60; }", table, sample.Font(), nil, api.OK},
		{"", floats, sample.Font(), nil, api.ErrLimit},
		{"", floats[:201], sample.Font(), nil, api.OK},
		{"", items, sample.Font(), nil, api.ErrLimit},
		{"", items[:66], sample.Font(), nil, api.OK},
		{"rule 0 * { grow: 100000; }", items[:66], sample.Font(), nil, api.OK},
		{"", cells, sample.Font(), nil, api.ErrLimit},
		{"", cells[:67], sample.Font(), nil, api.OK},
		{"rule 0 block > block { below: 100000; }", tall, sample.Font(), nil, api.ErrRange},
		{"rule 0 block > block { below: 100000; }", tall[:11], sample.Font(), nil, api.OK},
		{"rule 0 block > block { below: 100000; } rule 0 *#10 { pad: 1; }", tall[:11], sample.Font(), nil, api.ErrRange},
		{"rule 0 block > block { pad: 50000; }", tall, sample.Font(), nil, api.ErrRange},
		{"rule 0 *#1 { cut: 5; } rule 0 block > block { pad: 50000; }", tall, sample.Font(), nil, api.ErrRange},
		{"rule 0 *#1 { cut: 5; } rule 0 block > block { pad: 50000; cut: 90000; }", tall, sample.Font(), nil, api.ErrRange},
		{"rule 0 block > block { pad: 50000; cut: 9; }", tall, sample.Font(), nil, api.OK},
	} {
		d := sample.Doc(x.rules, x.nodes...)
		d.Fonts[0] = x.font
		l, e := Lay(d, r, x.held)
		o, e2 := Offers(d, r, x.held)
		if e != x.want || e2 != x.want || (e != 0 && (l != nil || o != nil)) {
			t.Errorf("case %d: %v, want %v", i, e, x.want)
		}
	}
	if _, e := Lay(sample.Doc("", root), api.Reader{}, nil); e != api.ErrArg {
		t.Error(e)
	}
}

func TestFindAndOffers(t *testing.T) {
	d := sample.Doc("rule 0 *#3 { width: 30; } rule 0 *#4 { hide: 1; }", sample.Root(), n(2, 1, api.KindPiece, ""), n(3, 1, api.KindPiece, ""), n(4, 1, api.KindPiece, ""))
	r := sample.Reader(250, 100)
	if o, e := Offers(d, r, nil); e != 0 || !slices.Equal(o, []api.Held{{Node: 2, H: 250}, {Node: 3, H: 30}}) {
		t.Error(o, e)
	}
	l := lay(t, d, r)
	if b, ok := Find(l, 3); !ok || b.W != 30 {
		t.Error(b, ok)
	}
	if b, ok := Find(l, 4); ok || b.Node != 0 {
		t.Error(b, ok)
	}
}

func TestProperties(t *testing.T) {
	pages := 0
	for seed := range 600 {
		dice := sample.Roll(seed)
		d := sample.Random(dice)
		r := api.Reader{Width: 200 + dice.N(20), Scale: 95 + dice.N(20), Lang: dice.N(2)}
		l, e := Lay(d, r, nil)
		if e != api.OK {
			continue
		}
		pages++
		shown := map[int]bool{}
		for _, x := range d.Nodes {
			s, e := contain.Style(d, x.ID, r)
			if e != api.OK {
				t.Fatal(e)
			}
			shown[x.ID] = s[api.PropHide] == 0 && (x.Parent == 0 || shown[x.Parent])
			b, found := Find(l, x.ID)
			if found != shown[x.ID] {
				t.Fatalf("seed %d: node %d has a box: %v", seed, x.ID, found)
			}
			if len(b.Lines) > 0 && x.Kind != words && x.Kind != api.KindNote {
				t.Fatalf("node %d has lines", x.ID)
			}
			if inner, e := contain.Inner(d, x.ID, r); found && e == api.OK {
				checkBlock(t, d, r, l, b, x, s, inner)
			}
		}
		checkStacks(t, d, r, l, shown)
		checkOthers(t, d, r, l, shown)
	}
	if pages < 300 {
		t.Error("too few pages", pages)
	}
}

// checkBlock looks at the width and the place of a block of its own.
func checkBlock(t *testing.T, d api.Doc, r api.Reader, l []api.Box, b api.Box, x api.Node, s api.Style, inner int) {
	t.Helper()
	if max(b.W-2*s[api.PropPad], 0) != inner {
		t.Fatalf("block %d is %d wide, not %d", x.ID, b.W, inner)
	}
	if x.Parent != 0 {
		up, _ := Find(l, x.Parent)
		s, _ := contain.Style(d, x.Parent, r)
		if b.X != up.X+s[api.PropPad] {
			t.Fatalf("block %d begins at %d", x.ID, b.X)
		}
	}
}

// checkStacks looks at nodes all of whose children are blocks.
func checkStacks(t *testing.T, d api.Doc, r api.Reader, l []api.Box, shown map[int]bool) {
	t.Helper()
	for _, x := range d.Nodes {
		if !shown[x.ID] || x.Kind != block && x.Kind != api.KindFloat && x.Kind != api.KindAbs {
			continue
		}
		var items []api.Item
		var tops []int
		plain := true
		for _, y := range d.Nodes {
			if y.Parent != x.ID || !shown[y.ID] {
				continue
			}
			plain = plain && y.Kind == block
			s, _ := contain.Style(d, y.ID, r)
			b, _ := Find(l, y.ID)
			items = append(items, api.Item{Above: s[api.PropMarginTop], Below: s[api.PropMarginBottom], H: b.H})
			tops = append(tops, b.Y)
			plain = plain && s[api.PropMarginTop] >= 0
		}
		if !plain {
			continue
		}
		s, _ := contain.Style(d, x.ID, r)
		b, _ := Find(l, x.ID)
		places, end, e := stack.Place(b.Y+s[api.PropPad], items)
		if e != api.OK {
			t.Fatal(e)
		}
		for i := range places {
			if places[i] != max(tops[i], b.Y+s[api.PropPad]) && places[i] >= b.Y+s[api.PropPad] && slices.IndexFunc(items, func(m api.Item) bool { return m.Below < 0 }) < 0 {
				t.Fatalf("child %d of %d is at %d, not %d", i, x.ID, tops[i], places[i])
			}
		}
		if negative := slices.ContainsFunc(items, func(m api.Item) bool { return m.Below < 0 }); !b.Cut && !negative && b.Y+b.H != end+s[api.PropPad] {
			t.Fatalf("node %d ends at %d, not %d", x.ID, b.Y+b.H, end+s[api.PropPad])
		}
	}
}

// checkOthers looks at what plays no part.
func checkOthers(t *testing.T, d api.Doc, r api.Reader, l []api.Box, shown map[int]bool) {
	t.Helper()
	few := d
	few.Nodes = slices.DeleteFunc(slices.Clone(d.Nodes), func(x api.Node) bool { return !shown[x.ID] })
	if len(few.Nodes) > 0 {
		if other, e := Lay(few, r, nil); e != 0 || !reflect.DeepEqual(other, l) {
			t.Fatal("hidden nodes play a part", e)
		}
	}
	offers, _ := Offers(d, r, nil)
	var held []api.Held
	for _, o := range offers {
		held = append(held, api.Held{Node: o.Node, H: o.Node * 3})
	}
	slices.SortFunc(held, func(a, b api.Held) int { return a.Node - b.Node })
	if other, e := Offers(d, r, held); e == 0 && !slices.Equal(other, offers) {
		t.Fatal("heights of pieces change offers")
	}
	more := d
	more.Nodes = append(slices.Clone(d.Nodes), n(99, 1, words, "ab"))
	if other, e := Lay(more, r, nil); e == 0 && shown[1] && !reflect.DeepEqual(other[1:len(l)], l[1:]) {
		t.Fatal("a further node changes others")
	}
	if !slices.ContainsFunc(d.Rules, func(x api.Rule) bool {
		return slices.ContainsFunc(x.When, func(c api.Term) bool { return c.What == api.LangIs })
	}) {
		foreign := r
		foreign.Lang = 3
		if other := lay(t, d, foreign); !reflect.DeepEqual(other, l) {
			t.Fatal("the language plays a part")
		}
	}
}
