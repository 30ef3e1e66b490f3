package pages

import (
	"reflect"
	"slices"
	"testing"

	"forme/api"
	"forme/layout"
	"forme/sample"
)

func paper(width, height, columns, gap int) api.Paper {
	return api.Paper{Width: width, Height: height, Columns: columns, Gap: gap, Scale: 100}
}

func slice(node, y, h int) api.Slice { return api.Slice{Node: node, Y: y, H: h} }

func broken(t *testing.T, p api.Paper, l []api.Slice, keep ...bool) []api.Page {
	t.Helper()
	for len(keep) < len(l) {
		keep = append(keep, false)
	}
	pages, e := Break(p, l, keep)
	if e != api.OK {
		t.Fatal(e)
	}
	return pages
}

// where returns the page, X and Y of all slices, in order.
func where(l []api.Page) [][4]int {
	var out [][4]int
	for _, p := range l {
		for _, s := range p.Slices {
			out = append(out, [4]int{p.Number, s.Node, s.X, s.Y})
		}
	}
	return out
}

func TestExample(t *testing.T) {
	l := []api.Slice{slice(1, 0, 10), slice(2, 12, 10), slice(3, 24, 10), slice(4, 36, 10)}
	for i, x := range []struct {
		p    api.Paper
		keep []bool
		want [][4]int
	}{
		{paper(200, 30, 1, 0), nil, [][4]int{{1, 1, 0, 0}, {1, 2, 0, 12}, {2, 3, 0, 0}, {2, 4, 0, 12}}},
		{paper(200, 30, 1, 0), []bool{false, true}, [][4]int{{1, 1, 0, 0}, {2, 2, 0, 0}, {2, 3, 0, 12}, {3, 4, 0, 0}}},
		{paper(407, 30, 2, 6), nil, [][4]int{{1, 1, 0, 0}, {1, 2, 0, 12}, {1, 3, 206, 0}, {1, 4, 206, 12}}},
		{paper(407, 21, 2, 6), nil, [][4]int{{1, 1, 0, 0}, {1, 2, 206, 0}, {2, 3, 0, 0}, {2, 4, 206, 0}}},
		{paper(200, 22, 1, 0), nil, [][4]int{{1, 1, 0, 0}, {1, 2, 0, 12}, {2, 3, 0, 0}, {2, 4, 0, 12}}},
		{paper(200, 46, 1, 0), nil, [][4]int{{1, 1, 0, 0}, {1, 2, 0, 12}, {1, 3, 0, 24}, {1, 4, 0, 36}}},
		{paper(200, 5, 1, 0), nil, [][4]int{{1, 1, 0, 0}, {2, 2, 0, 0}, {3, 3, 0, 0}, {4, 4, 0, 0}}},
	} {
		if got := where(broken(t, x.p, l, x.keep...)); !slices.Equal(got, x.want) {
			t.Errorf("case %d: %v", i, got)
		}
	}
	if n, ok := Find(broken(t, paper(200, 30, 1, 0), l), 3); n != 2 || !ok {
		t.Error(n, ok)
	}
	if n, ok := Find(broken(t, paper(200, 30, 1, 0), l), 9); n != 0 || ok {
		t.Error(n, ok)
	}
}

func TestNotes(t *testing.T) {
	note := func(node, y, h int) api.Slice { return api.Slice{Node: node, X: 3, Y: y, H: h, Note: true} }
	for i, x := range []struct {
		h    int
		l    []api.Slice
		want [][4]int
	}{
		// The note of 2 takes 8 of 30, so that 2 does not fit below 1.
		{30, []api.Slice{slice(1, 0, 10), slice(2, 12, 11), note(3, 12, 8), slice(4, 36, 10)}, [][4]int{{1, 1, 0, 0}, {2, 2, 0, 0}, {2, 3, 3, 22}, {3, 4, 0, 0}}},
		{31, []api.Slice{slice(1, 0, 10), slice(2, 12, 11), note(3, 12, 8), slice(4, 36, 10)}, [][4]int{{1, 1, 0, 0}, {1, 2, 0, 12}, {1, 3, 3, 23}, {2, 4, 0, 0}}},
		{30, []api.Slice{note(7, 0, 3), slice(1, 0, 10), note(8, 5, 4), slice(2, 12, 8), note(9, 20, 1)}, [][4]int{{1, 1, 0, 0}, {1, 2, 0, 12}, {1, 7, 3, 22}, {1, 8, 3, 25}, {1, 9, 3, 29}}},
		{9, []api.Slice{slice(1, 0, 10), note(8, 5, 4), note(9, 5, 4)}, [][4]int{{1, 1, 0, 0}, {1, 8, 3, 10}, {1, 9, 3, 14}}},
		{9, []api.Slice{note(8, 5, 4), note(9, 5, 2)}, [][4]int{{1, 8, 3, 3}, {1, 9, 3, 7}}},
		{9, nil, nil},
		// A note within a band does not end it.
		{40, []api.Slice{slice(1, 0, 10), note(8, 2, 4), slice(2, 5, 10), slice(3, 16, 21)}, [][4]int{{1, 1, 0, 0}, {1, 2, 0, 5}, {1, 8, 3, 36}, {2, 3, 0, 0}}},
	} {
		if got := where(broken(t, paper(200, x.h, 1, 0), x.l)); !slices.Equal(got, x.want) {
			t.Errorf("case %d: %v", i, got)
		}
	}
	// The notes of a band leave no room for what stands in another column.
	l := []api.Slice{slice(1, 0, 28), slice(2, 30, 5), note(3, 30, 5)}
	if got := where(broken(t, paper(400, 30, 2, 0), l)); !slices.Equal(got, [][4]int{{1, 1, 0, 0}, {2, 2, 0, 0}, {2, 3, 3, 25}}) {
		t.Error(got)
	}
}

func TestHeads(t *testing.T) {
	inTable := func(node, y, h int, head bool) api.Slice {
		return api.Slice{Node: node, Table: 9, X: 1, Y: y, H: h, Head: head}
	}
	l := []api.Slice{slice(1, 0, 10), inTable(2, 10, 4, true), inTable(3, 15, 4, true), inTable(4, 20, 10, false), inTable(5, 30, 10, false), slice(6, 40, 20)}
	for i, x := range []struct {
		h    int
		l    []api.Slice
		want [][4]int
	}{
		{40, l, [][4]int{{1, 1, 0, 0}, {1, 2, 1, 10}, {1, 3, 1, 15}, {1, 4, 1, 20}, {1, 5, 1, 30}, {2, 6, 0, 0}}},
		{30, l, [][4]int{{1, 1, 0, 0}, {1, 2, 1, 10}, {1, 3, 1, 15}, {1, 4, 1, 20}, {2, 2, 1, 0}, {2, 3, 1, 5}, {2, 5, 1, 9}, {3, 6, 0, 0}}},
		{19, l, [][4]int{{1, 1, 0, 0}, {1, 2, 1, 10}, {1, 3, 1, 15}, {2, 2, 1, 0}, {2, 3, 1, 5}, {2, 4, 1, 9}, {3, 2, 1, 0}, {3, 3, 1, 5}, {3, 5, 1, 9}, {4, 6, 0, 0}}},
		// Where heads and the band do not fit together, there are none; and there are none above heads.
		{18, l, [][4]int{{1, 1, 0, 0}, {1, 2, 1, 10}, {2, 3, 1, 0}, {2, 4, 1, 5}, {3, 5, 1, 0}, {4, 6, 0, 0}}},
		{10, []api.Slice{inTable(2, 10, 4, false), inTable(3, 20, 4, false)}, [][4]int{{1, 2, 1, 0}, {2, 3, 1, 0}}},
	} {
		if got := where(broken(t, paper(200, x.h, 1, 0), x.l)); !slices.Equal(got, x.want) {
			t.Errorf("case %d: %v", i, got)
		}
	}
}

func TestRefused(t *testing.T) {
	good := []api.Slice{slice(1, 0, 10)}
	for i, p := range []api.Paper{
		{}, paper(199, 9, 1, 0), paper(4001, 9, 1, 0), paper(200, 0, 1, 0), paper(200, 1000001, 1, 0), paper(200, 9, 0, 0), paper(2000, 9, 9, 0),
		paper(2000, 9, 1, -1), paper(4000, 9, 2, 1001), paper(405, 9, 2, 6), paper(100001, 9, 8, 0), {Width: 200, Height: 9, Columns: 1, Scale: 49},
		{Width: 200, Height: 9, Columns: 1, Scale: 100, Lang: 4}, paper(-5, 9, 1, 0),
	} {
		_, e := Break(p, good, []bool{false})
		_, e2 := Print(sample.Doc("", sample.Root()), p)
		if e != api.ErrArg || e2 != api.ErrArg {
			t.Errorf("paper %d: %v, %v", i, e, e2)
		}
	}
	for i, l := range [][]api.Slice{
		{slice(0, 0, 1)}, {slice(1000001, 0, 1)}, {slice(1, 0, -1)}, {slice(1, 0, 1000001)}, {slice(1, 1000000001, 1)}, {{Node: 1, X: -1000000001}},
		{slice(1, 1, 1), slice(1, 0, 1)}, {{Node: 1, Table: -1}}, {{Node: 1, Table: 1000001}}, {{Node: 1, Text: "\n"}}, make([]api.Slice, 10001),
	} {
		if pages, e := Break(paper(200, 9, 1, 0), l, make([]bool, len(l))); e != api.ErrArg || pages != nil {
			t.Errorf("slices %d: %v", i, e)
		}
	}
	if _, e := Break(paper(200, 9, 1, 0), good, nil); e != api.ErrArg {
		t.Error(e)
	}
	var long []api.Slice
	for i := range 501 {
		long = append(long, slice(1, 10*i, 10))
	}
	if pages, e := Break(paper(200, 9, 1, 0), long, make([]bool, 501)); e != api.ErrLimit || pages != nil {
		t.Error(e)
	}
	if pages, e := Break(paper(200, 9, 1, 0), long[:500], make([]bool, 500)); e != 0 || len(pages) != 500 {
		t.Error(e)
	}
	d := sample.Doc("", sample.Root())
	if _, e := Print(api.Doc{}, paper(200, 9, 1, 0)); e != api.ErrArg {
		t.Error(e)
	}
	d.Rules = sample.Rules("rule 0 * { pad: 1000000 * 1000 * 9; }")
	if _, e := Print(d, paper(200, 9, 1, 0)); e != api.ErrRange {
		t.Error(e)
	}
}

func TestSlices(t *testing.T) {
	d := sample.Doc("rule 0 tr.1 { head: 1; } rule 0 text { keep: 1; } rule 0 *#8 { keep: $1 * 1000 * 1000 * 1000 * 1000; $1: 1; } rule 0 *#10 { hide: 1; $1: 5; }",
		sample.Root(), sample.Node(2, 1, api.KindTable, 0, ""), sample.Node(3, 2, api.KindTr, 1, ""), sample.Node(4, 3, api.KindCell, 0, ""),
		sample.Node(5, 4, api.KindText, 0, "a"), sample.Node(6, 4, api.KindNote, 0, "b"), sample.Node(7, 1, api.KindPiece, 0, ""), sample.Node(10, 1, api.KindBlock, 0, ""), sample.Node(8, 10, api.KindBlock, 0, ""))
	line := []api.Seen{{Text: "x", X: 1, Y: 7, W: 2, H: 3}, {Text: "y", X: 1, Y: 2, W: 2, H: 0}}
	box := func(node, y, h int, lines ...api.Seen) api.Box {
		return api.Box{Node: node, X: 4, Y: y, W: -5, H: h, Lines: lines}
	}
	r := sample.Reader(200, 100)
	for i, x := range []struct {
		l    []api.Box
		want []api.Slice
		kept []bool
		e    api.Errno
	}{
		{nil, nil, nil, 0},
		{[]api.Box{box(1, 9, 5), box(2, 0, 5), box(7, 9, 5), box(10, 9, 0)}, []api.Slice{{Node: 2, X: 4, H: 5}, {Node: 7, X: 4, Y: 9, H: 5}}, []bool{false, false}, 0},
		{[]api.Box{box(1, 3, 5), box(3, 8, 5), box(5, 0, 9, line...), box(6, 2, 4)}, []api.Slice{
			{Node: 5, Table: 2, X: 1, Y: 2, Text: "y", Head: true}, {Node: 6, Table: 2, X: 4, Y: 2, H: 4, Head: true, Note: true}, {Node: 1, X: 4, Y: 3, H: 5},
			{Node: 5, Table: 2, X: 1, Y: 7, H: 3, Text: "x", Head: true}, {Node: 3, Table: 2, X: 4, Y: 8, H: 5, Head: true}}, []bool{true, false, false, true, false}, 0},
		{[]api.Box{box(8, 3, 5)}, nil, nil, api.ErrRange},
		{[]api.Box{box(8, 3, 0)}, nil, nil, 0},
		{[]api.Box{box(10, 3, 1)}, []api.Slice{{Node: 10, X: 4, Y: 3, H: 1}}, []bool{false}, 0},
		{[]api.Box{box(2, 0, 5), box(1, 0, 5)}, nil, nil, api.ErrArg}, {[]api.Box{box(2, 0, 5), box(2, 0, 5)}, nil, nil, api.ErrArg}, {[]api.Box{box(9, 0, 5)}, nil, nil, api.ErrArg},
		{[]api.Box{box(2, 0, -1)}, nil, nil, api.ErrArg}, {[]api.Box{box(2, 0, 1000001)}, nil, nil, api.ErrArg}, {[]api.Box{box(2, 1000000001, 1)}, nil, nil, api.ErrArg},
		{[]api.Box{box(2, 0, 1, api.Seen{Text: "\n"})}, nil, nil, api.ErrArg}, {[]api.Box{box(2, 0, 1, api.Seen{H: -1})}, nil, nil, api.ErrArg},
		{[]api.Box{box(2, 0, 1, api.Seen{X: -1000000001})}, nil, nil, api.ErrArg},
		{[]api.Box{box(8, 0, 1, make([]api.Seen, 10001)...)}, nil, nil, api.ErrLimit},
	} {
		got, kept, e := Slices(d, r, x.l)
		if !slices.Equal(got, x.want) || !slices.Equal(kept, x.kept) || e != x.e {
			t.Errorf("case %d: %v, %v, %v", i, got, kept, e)
		}
	}
	if _, _, e := Slices(api.Doc{}, r, nil); e != api.ErrArg {
		t.Error(e)
	}
	if _, _, e := Slices(d, api.Reader{}, nil); e != api.ErrArg {
		t.Error(e)
	}
}

// random returns slices that can be broken; no two have the same node.
func random(dice *sample.Dice) ([]api.Slice, []bool) {
	var l []api.Slice
	var keep []bool
	y := dice.N(9) - 4
	for i := range dice.N(40) {
		s := api.Slice{Node: i + 1, Y: y, H: dice.N(12), X: dice.N(5), Note: dice.N(6) == 0}
		if dice.N(3) == 0 {
			s.Table, s.Head = 500+dice.N(2), dice.N(3) == 0
		}
		l, keep = append(l, s), append(keep, dice.N(6) == 0)
		y += dice.N(14)
	}
	return l, keep
}

func TestBreaking(t *testing.T) {
	repeated := 0
	for seed := range 3000 {
		dice := sample.Roll(seed)
		l, keep := random(dice)
		p := paper(1000, 10+dice.N(50), 1+dice.N(3), dice.N(4))
		step := readerOf(p).Width + p.Gap
		pages := broken(t, p, l, keep...)
		times := map[int]int{}
		page, order := map[int]int{}, []int{}
		for n, pg := range pages {
			if pg.Number != n+1 {
				t.Fatal("numbers")
			}
			noted, end := false, 0
			for _, s := range pg.Slices {
				was := l[s.Node-1]
				if noted && !s.Note || s.Note && s.Y < end {
					t.Fatalf("seed %d: what is no note is below one", seed)
				}
				noted = s.Note
				end = max(end, s.Y+s.H)
				times[s.Node]++
				if times[s.Node] > 1 {
					repeated++
					if !s.Head || s.Note {
						t.Fatalf("seed %d: %v twice", seed, s)
					}
					continue
				}
				if page[s.Node] = pg.Number; !s.Note {
					order = append(order, s.Node)
				}
				if col := s.X - was.X; col%step != 0 || s.Note && col != 0 {
					t.Fatal("column", s)
				}
				s.X, s.Y = was.X, was.Y
				if s != was {
					t.Fatal(s, was)
				}
			}
		}
		inOrder(t, l, keep, page, order)
		bandsOf(t, p, l, keep, pages)
	}
	if repeated < 100 {
		t.Error("too few heads are repeated", repeated)
	}
}

// inOrder looks whether each slice is printed, in order, notes by the slices before them, and kept ones with the next ones.
func inOrder(t *testing.T, l []api.Slice, keep []bool, page map[int]int, order []int) {
	t.Helper()
	if len(page) != len(l) || !slices.IsSorted(order) {
		t.Fatal("slices are lost, or not in order")
	}
	last := -1
	for i, s := range l {
		if s.Note && last >= 0 && page[s.Node] != page[l[last].Node] {
			t.Fatal("a note is on another page")
		}
		if s.Note {
			continue
		}
		if last >= 0 && keep[last] && page[s.Node] != page[l[last].Node] {
			t.Fatal("a kept slice is on another page than the next one")
		}
		last = i
	}
}

// bandsOf looks at the places of bands on their pages.
func bandsOf(t *testing.T, p api.Paper, l []api.Slice, keep []bool, pages []api.Page) {
	t.Helper()
	for b := range bands(l, keep) {
		first := true
		for _, pg := range pages {
			i := slices.IndexFunc(pg.Slices, func(s api.Slice) bool { return s.Node == b.slices[0].Node })
			if i < 0 || !first {
				continue
			}
			first = false
			at := pg.Slices[i]
			for _, s := range b.slices {
				j := slices.IndexFunc(pg.Slices, func(x api.Slice) bool { return x.Node == s.Node })
				if j < 0 {
					t.Fatal("a band is torn")
				}
				if x := pg.Slices[j]; x.X-at.X != s.X-b.slices[0].X || x.Y-at.Y != s.Y-b.slices[0].Y {
					t.Fatal("a band is changed")
				}
			}
			if at.Y+b.height() > p.Height && at.Y != 0 {
				t.Fatal("a band ends below the paper, and is not the first one")
			}
		}
	}
}

func TestPrint(t *testing.T) {
	printed := 0
	for seed := range 600 {
		dice := sample.Roll(seed)
		d := sample.Random(dice)
		p := paper(405+dice.N(20), 20+dice.N(40), 2, 5)
		p.Lang = dice.N(2)
		boxes, e := layout.Lay(d, readerOf(p), nil)
		pages, e2 := Print(d, p)
		if e != e2 {
			t.Fatal(e, e2)
		}
		if e != api.OK {
			continue
		}
		var want, got []string
		for _, b := range boxes {
			for _, s := range b.Lines {
				want = append(want, s.Text)
			}
		}
		for _, pg := range pages {
			for _, s := range pg.Slices {
				if s.Text != "" && !s.Head {
					got = append(got, s.Text)
				}
			}
		}
		heads := slices.ContainsFunc(d.Rules, func(r api.Rule) bool {
			return slices.ContainsFunc(r.Decls, func(x api.Decl) bool { return x.Prop == api.PropHead })
		})
		slices.Sort(want)
		slices.Sort(got)
		if !heads && !reflect.DeepEqual(want, got) {
			t.Fatalf("seed %d: %v, not %v", seed, got, want)
		}
		printed += len(pages)
	}
	if printed < 300 {
		t.Error("too few pages", printed)
	}
}
