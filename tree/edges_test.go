package tree

import (
	"strings"
	"testing"

	"forme/api"
)

// chain returns a tree in which each node is a child of the one before.
func chain(n int) []api.Node {
	var l []api.Node
	for i := range n {
		l = append(l, api.Node{ID: i + 1, Parent: i, Kind: api.KindBlock})
	}
	return l
}

func TestDepths(t *testing.T) {
	l := append(chain(29), api.Node{ID: 40, Parent: 1, Kind: api.KindBlock}, api.Node{ID: 41, Parent: 40, Kind: api.KindBlock}, api.Node{ID: 42, Parent: 40, Kind: api.KindBlock})
	if !Valid(chain(30)) || Valid(chain(31)) || !Valid(l) {
		t.Error("depths")
	}
	for parent, want := range map[int]api.Errno{28: 0, 29: api.ErrLimit} {
		if _, e := Move(l, 40, parent, 0); e != want {
			t.Error(parent, e)
		}
	}
	if _, e := Move(l, 41, 29, 0); e != 0 {
		t.Error(e)
	}
	for parent, want := range map[int]api.Errno{29: 0, 30: api.ErrLimit} {
		if _, e := Insert(chain(30), api.Node{ID: 99, Parent: parent, Kind: api.KindText}, 0); e != want {
			t.Error(parent, e)
		}
	}
}

func TestRanges(t *testing.T) {
	const most = 1000000
	l := []api.Node{{ID: 1, Kind: api.KindBlock, Class: 100}, {ID: most, Parent: 1, Kind: api.KindBlock}, {ID: 7, Parent: most, Kind: api.KindNote, Text: strings.Repeat("a", 2000)}}
	if !Valid(l) {
		t.Error("the greatest values")
	}
	if got, e := Insert(l, api.Node{ID: 8, Parent: 1, Kind: api.KindPiece, Class: 100}, most); e != 0 || got[1].ID != 8 {
		t.Error(e)
	}
	if _, e := Insert(l, api.Node{ID: 8, Parent: most, Kind: api.KindText}, 0); e != 0 {
		t.Error(e)
	}
	moved := append(l, api.Node{ID: 8, Parent: 1, Kind: api.KindBlock})
	if got, e := Move(moved, 8, 1, most); e != 0 || got[1].ID != 8 {
		t.Error(e)
	}
	if got, e := Move(moved, 8, most, 7); e != 0 || got[2].ID != 8 {
		t.Error(e)
	}
	if got, e := Remove(moved, most); e != 0 || len(got) != 2 {
		t.Error(e)
	}
	for i, n := range []api.Node{
		{ID: 0, Parent: 1, Kind: 1}, {ID: most + 1, Parent: 1, Kind: 1}, {ID: 8, Parent: 1, Kind: 0}, {ID: 8, Parent: 1, Kind: 12}, {ID: 8, Parent: 1, Kind: 1, Class: -1}, {ID: 8, Parent: 1, Kind: 1, Class: 101},
		{ID: 8, Parent: -1, Kind: 1}, {ID: 8, Parent: most + 1, Kind: 1}, {ID: 8, Kind: 1}, {ID: 8, Parent: 1, Kind: 2, Text: "\n"}, {ID: 8, Parent: 1, Kind: 10, Text: "a"},
	} {
		if got, e := Insert(l, n, 0); e != api.ErrArg || got != nil {
			t.Errorf("node %d: %v", i, e)
		}
	}
	for _, id := range []int{-1, 0, most + 1} {
		at, found, e := Find(l, id)
		_, e2 := Kids(l, id)
		_, e3 := Path(l, id)
		_, e4 := Remove(l, id)
		_, e5 := Move(l, id, 1, 0)
		_, e6 := Move(l, 7, id, 0)
		if at != 0 || found || e != api.ErrArg || e2 != api.ErrArg || e3 != api.ErrArg || e4 != api.ErrArg || e5 != api.ErrArg || e6 != api.ErrArg {
			t.Error(id, e, e2, e3, e4, e5, e6)
		}
	}
	for _, before := range []int{-1, most + 1} {
		_, e := Insert(l, api.Node{ID: 8, Parent: 1, Kind: 1}, before)
		_, e2 := Move(l, 7, 1, before)
		if e != api.ErrArg || e2 != api.ErrArg {
			t.Error(before, e, e2)
		}
	}
	if _, e := Move(nil, 7, 1, 0); e != api.ErrArg {
		t.Error(e)
	}
	if at, found, e := Find(l, 55); at != 0 || found || e != 0 {
		t.Error(at, found, e)
	}
}
