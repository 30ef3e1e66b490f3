package pages

import (
	"slices"
	"testing"

	"forme/api"
	"forme/sample"
)

func TestEdges(t *testing.T) {
	const most = api.MaxCoord
	top := []api.Slice{{Node: 1000000, Table: 1000000, X: -most, Y: -most, H: 1000000}, {Node: 1, X: most, Y: most}}
	if l, e := Break(paper(200, 1000000, 1, 0), top, make([]bool, 2)); e != 0 || len(l) != 2 {
		t.Error(e)
	}
	if l, e := Break(paper(200, 1, 1, 0), slices.Repeat([]api.Slice{slice(1, 5, 0)}, 10000), make([]bool, 10000)); e != 0 || len(l) != 1 || len(l[0].Slices) != 10000 {
		t.Error(e)
	}
	for i, p := range []api.Paper{paper(200, 1, 1, 0), paper(8600, 9, 8, 1000), paper(32007, 9, 8, 1), paper(4000, 1000000, 1, 1000), paper(39000, 9, 8, 1000)} {
		if _, e := Break(p, nil, nil); e != 0 {
			t.Errorf("paper %d: %v", i, e)
		}
	}
	for i, p := range []api.Paper{paper(8599, 9, 8, 1000), paper(39008, 9, 8, 1000), paper(9000, 9, 9, 0), paper(8600, 9, 8, 1001), paper(32008, 9, 8, 0), paper(0, 9, 1, 0), paper(200, -1, 1, 0), paper(200, 9, -1, 0)} {
		if _, e := Break(p, nil, nil); e != api.ErrArg {
			t.Errorf("bad paper %d: %v", i, e)
		}
	}
	if l, e := Break(paper(200, 9, 1, 0), nil, nil); e != 0 || len(l) != 0 {
		t.Error(l, e)
	}
	for i, x := range []struct {
		s    api.Slice
		keep []bool
	}{{api.Slice{Node: 1, Y: -most - 1}, []bool{false}}, {api.Slice{Node: 1, X: most + 1}, []bool{false}}, {slice(1, 0, 0), []bool{false, false}}} {
		if _, e := Break(paper(200, 9, 1, 0), []api.Slice{x.s}, x.keep); e != api.ErrArg {
			t.Errorf("slice %d: %v", i, e)
		}
	}
	d, r := sample.Doc("", sample.Root(), sample.Node(1000000, 1, api.KindBlock, 0, "")), sample.Reader(200, 100)
	box := api.Box{Node: 1000000, X: most, Y: -most, W: -most, H: 1000000, Lines: slices.Repeat([]api.Seen{{X: -most, Y: most, W: most, H: 1000000}}, 10000)}
	if l, keep, e := Slices(d, r, []api.Box{box}); e != 0 || len(l) != 10000 || len(keep) != 10000 {
		t.Error(e)
	}
	for i, change := range []func(b *api.Box){
		func(b *api.Box) { b.X = most + 1 }, func(b *api.Box) { b.Y = -most - 1 }, func(b *api.Box) { b.W = most + 1 }, func(b *api.Box) { b.H = -1 }, func(b *api.Box) { b.H = 1000001 },
		func(b *api.Box) { b.Lines = []api.Seen{{W: most + 1}} }, func(b *api.Box) { b.Lines = []api.Seen{{Y: most + 1}} }, func(b *api.Box) { b.Lines = []api.Seen{{H: 1000001}} },
	} {
		b := box
		change(&b)
		if l, keep, e := Slices(d, r, []api.Box{b}); e != api.ErrArg || l != nil || keep != nil {
			t.Errorf("box %d: %v", i, e)
		}
	}
}

// TestColumns looks at the room in all columns, and at the notes of a band.
func TestColumns(t *testing.T) {
	note := func(node, y, h int) api.Slice { return api.Slice{Node: node, Y: y, H: h, Note: true} }
	head := api.Slice{Node: 7, Table: 9, H: 3, Head: true}
	body := func(node, y, h int) api.Slice { return api.Slice{Node: node, Table: 9, Y: y, H: h} }
	for i, x := range []struct {
		p    api.Paper
		l    []api.Slice
		want [][4]int
	}{
		// The first column is just as high as the paper less the note.
		{paper(400, 30, 2, 0), []api.Slice{slice(1, 0, 25), slice(2, 30, 5), note(3, 30, 5)}, [][4]int{{1, 1, 0, 0}, {1, 2, 200, 0}, {1, 3, 0, 25}}},
		{paper(400, 30, 2, 0), []api.Slice{slice(1, 0, 26), slice(2, 30, 5), note(3, 30, 5)}, [][4]int{{1, 1, 0, 0}, {2, 2, 0, 0}, {2, 3, 0, 25}}},
		// What just fits, and what does not, in a further column.
		{paper(400, 30, 2, 0), []api.Slice{slice(1, 0, 20), slice(2, 30, 30)}, [][4]int{{1, 1, 0, 0}, {1, 2, 200, 0}}},
		{paper(400, 30, 2, 0), []api.Slice{slice(1, 0, 20), slice(2, 30, 31)}, [][4]int{{1, 1, 0, 0}, {2, 2, 0, 0}}},
		{paper(606, 10, 3, 3), []api.Slice{slice(1, 0, 10), slice(2, 10, 10), slice(3, 20, 10), slice(4, 30, 1)}, [][4]int{{1, 1, 0, 0}, {1, 2, 203, 0}, {1, 3, 406, 0}, {2, 4, 0, 0}}},
		// Heads with the notes of the band below them.
		{paper(200, 20, 1, 0), []api.Slice{head, body(1, 10, 10), body(2, 20, 12), note(3, 20, 5)}, [][4]int{{1, 7, 0, 0}, {1, 1, 0, 10}, {2, 7, 0, 0}, {2, 2, 0, 3}, {2, 3, 0, 15}}},
		{paper(200, 20, 1, 0), []api.Slice{head, body(1, 10, 10), body(2, 20, 13), note(3, 20, 5)}, [][4]int{{1, 7, 0, 0}, {1, 1, 0, 10}, {2, 2, 0, 0}, {2, 3, 0, 15}}},
		// Notes that are higher than the paper, without bands.
		{paper(200, 9, 1, 0), []api.Slice{note(1, 3, 5), note(2, 3, 5)}, [][4]int{{1, 1, 0, 0}, {1, 2, 0, 5}}},
		// A head of no table is no head of a band of no table.
		{paper(200, 20, 1, 0), []api.Slice{{Node: 7, H: 3, Head: true}, slice(1, 10, 10), slice(2, 20, 12)}, [][4]int{{1, 7, 0, 0}, {1, 1, 0, 10}, {2, 2, 0, 0}}},
		// A band of no table, and of another one, has no heads.
		{paper(200, 20, 1, 0), []api.Slice{head, body(1, 10, 10), slice(2, 20, 12)}, [][4]int{{1, 7, 0, 0}, {1, 1, 0, 10}, {2, 2, 0, 0}}},
		{paper(200, 20, 1, 0), []api.Slice{head, body(1, 10, 10), {Node: 2, Table: 8, Y: 20, H: 12}}, [][4]int{{1, 7, 0, 0}, {1, 1, 0, 10}, {2, 2, 0, 0}}},
	} {
		if got := where(broken(t, x.p, x.l)); !slices.Equal(got, x.want) {
			t.Errorf("case %d: %v", i, got)
		}
	}
}
