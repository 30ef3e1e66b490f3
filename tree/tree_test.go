package tree

import (
	"math/rand"
	"slices"
	"strings"
	"testing"

	"forme/api"
)

func n(id, parent, kind int) api.Node { return api.Node{ID: id, Parent: parent, Kind: kind} }

func example() []api.Node {
	return []api.Node{n(1, 0, api.KindBlock), n(2, 1, api.KindBlock), n(3, 2, api.KindText), n(4, 1, api.KindText)}
}

func ids(l []api.Node) []int {
	var out []int
	for _, x := range l {
		out = append(out, x.ID)
	}
	return out
}

func random(r *rand.Rand) []api.Node {
	l := []api.Node{n(1, 0, api.KindBlock)}
	for id := 2; id < 2+r.Intn(14); id++ {
		if m, e := Insert(l, n(id, 1+r.Intn(id), 1+r.Intn(11)), 0); e == api.OK {
			l = m
		}
	}
	return l
}

func kids(t *testing.T, l []api.Node, id int) []int {
	t.Helper()
	k, e := Kids(l, id)
	if e != api.OK {
		t.Fatal(e)
	}
	return k
}

func TestExample(t *testing.T) {
	l := example()
	if !slices.Equal(kids(t, l, 1), []int{2, 4}) {
		t.Error("children")
	}
	if p, e := Path(l, 3); e != api.OK || !slices.Equal(p, []int{1, 2, 3}) {
		t.Error(p, e)
	}
	if m, e := Insert(l, n(5, 1, api.KindRow), 4); e != api.OK || !slices.Equal(ids(m), []int{1, 2, 3, 5, 4}) {
		t.Error(m, e)
	}
	if m, e := Move(l, 2, 1, 0); e != api.OK || !slices.Equal(ids(m), []int{1, 4, 2, 3}) {
		t.Error(m, e)
	}
	if i, ok, e := Find(l, 4); i != 3 || !ok || e != api.OK {
		t.Error(i, ok, e)
	}
	if i, ok, e := Find(l, 9); i != 0 || ok || e != api.OK {
		t.Error(i, ok, e)
	}
	if !slices.Equal(l, example()) {
		t.Error("the tree was changed")
	}
}

func TestErrors(t *testing.T) {
	l := example()
	text := n(9, 1, api.KindText)
	text.Text = "a"
	bad := n(9, 1, api.KindRow)
	bad.Text = "a"
	type result struct {
		m []api.Node
		e api.Errno
	}
	of := func(m []api.Node, e api.Errno) result { return result{m, e} }
	for i, x := range []struct {
		got  result
		want api.Errno
	}{
		{of(Insert(l, text, 0)), api.OK},
		{of(Insert(l, bad, 0)), api.ErrArg},
		{of(Insert(l, n(9, 0, 1), 0)), api.ErrArg},
		{of(Insert(l, n(9, 1, 12), 0)), api.ErrArg},
		{of(Insert(l, n(9, 1, 1), -1)), api.ErrArg},
		{of(Insert(nil, n(9, 1, 1), 0)), api.ErrArg},
		{of(Insert(l, n(3, 7, 1), 0)), api.ErrTwice},
		{of(Insert(l, n(9, 7, 1), 3)), api.ErrNone},
		{of(Insert(l, n(9, 1, api.KindTr), 3)), api.ErrParent},
		{of(Insert(l, n(9, 1, api.KindTr), 4)), api.ErrKind},
		{of(Insert(l, n(9, 3, api.KindBlock), 0)), api.ErrKind},
		{of(Remove(l, 0)), api.ErrArg},
		{of(Remove(l, 9)), api.ErrNone},
		{of(Remove(l, 1)), api.ErrParent},
		{of(Move(l, 0, 1, 0)), api.ErrArg},
		{of(Move(l, 2, 1, 1000001)), api.ErrArg},
		{of(Move(l, 9, 1, 0)), api.ErrNone},
		{of(Move(l, 2, 9, 0)), api.ErrNone},
		{of(Move(l, 1, 2, 0)), api.ErrParent},
		{of(Move(l, 2, 3, 0)), api.ErrParent},
		{of(Move(l, 2, 2, 0)), api.ErrParent},
		{of(Move(l, 2, 1, 2)), api.ErrParent},
		{of(Move(l, 4, 2, 2)), api.ErrParent},
		{of(Move(l, 4, 3, 0)), api.ErrKind},
	} {
		if x.got.e != x.want || (x.want != api.OK && x.got.m != nil) {
			t.Errorf("case %d: %v, want %v", i, x.got.e, x.want)
		}
	}
	if _, e := Kids(l, 9); e != api.ErrNone {
		t.Error(e)
	}
	if _, e := Path(l, 1000001); e != api.ErrArg {
		t.Error(e)
	}
	if _, _, e := Find(nil, 1); e != api.ErrArg {
		t.Error(e)
	}
}

func TestValid(t *testing.T) {
	long := n(2, 1, api.KindText)
	long.Text = strings.Repeat("a", 2001)
	classy := n(2, 1, api.KindText)
	classy.Class = 101
	root := n(1, 0, api.KindBlock)
	for i, l := range [][]api.Node{
		nil, {n(1, 0, api.KindRow)}, {n(1, 1, api.KindBlock)}, {n(1, 2, api.KindBlock)}, {root, root}, {root, n(2, 2, 1)}, {root, n(2, 3, 1), n(3, 1, 1)},
		{root, n(2, 0, 1)}, {root, n(0, 1, 1)}, {root, n(1000001, 1, 1)}, {root, n(2, 1, 0)}, {root, n(2, 1, api.KindCell)},
		{root, n(2, 1, api.KindText), n(3, 2, api.KindText)}, {root, n(2, 1, api.KindTable), n(3, 2, api.KindBlock)}, {root, long}, {root, classy},
	} {
		if Valid(l) {
			t.Errorf("list %d is a tree", i)
		}
	}
	table := []api.Node{root, n(2, 1, api.KindTable), n(3, 2, api.KindTr), n(4, 3, api.KindCell), n(5, 4, api.KindNote), n(6, 4, api.KindPiece)}
	if !Valid(table) {
		t.Error("a table is no tree")
	}
	deep := []api.Node{root}
	for id := 2; id <= 30; id++ {
		deep = append(deep, n(id, id-1, 1))
	}
	if _, e := Insert(deep, n(31, 30, 1), 0); e != api.ErrLimit || !Valid(deep) || Valid(append(slices.Clone(deep), n(31, 30, 1))) {
		t.Error("the limit of depth", e)
	}
	side, _ := Insert(deep, n(31, 1, 1), 0)
	if _, e := Move(side, 2, 31, 0); e != api.ErrLimit {
		t.Error(e)
	}
	if _, e := Move(side, 30, 31, 0); e != api.OK {
		t.Error(e)
	}
	wide := []api.Node{root}
	for id := 2; id <= 4000; id++ {
		wide = append(wide, n(id, 1, 1))
	}
	if _, e := Insert(wide, n(4001, 1, 1), 0); e != api.ErrLimit || !Valid(wide) || Valid(append(wide, n(4001, 1, 1))) {
		t.Error("the limit of nodes", e)
	}
}

func TestChildrenAndPaths(t *testing.T) {
	r := rand.New(rand.NewSource(1))
	for range 300 {
		l := random(r)
		times := map[int]int{}
		for _, x := range l {
			k := kids(t, l, x.ID)
			at := -1
			for _, id := range k {
				i, _, _ := Find(l, id)
				if l[i].Parent != x.ID || i <= at {
					t.Fatalf("children of %d: %v", x.ID, k)
				}
				at = i
				times[id]++
			}
			p, _ := Path(l, x.ID)
			if p[0] != 1 || p[len(p)-1] != x.ID {
				t.Fatalf("path of %d: %v", x.ID, p)
			}
			for i := 1; i < len(p); i++ {
				if !slices.Contains(kids(t, l, p[i-1]), p[i]) {
					t.Fatalf("path of %d: %v", x.ID, p)
				}
			}
		}
		for _, x := range l[1:] {
			if times[x.ID] != 1 {
				t.Fatalf("%d is a child %d times", x.ID, times[x.ID])
			}
		}
	}
}

func TestEditing(t *testing.T) {
	r := rand.New(rand.NewSource(2))
	for range 500 {
		l := random(r)
		id := l[r.Intn(len(l))].ID
		parent := l[r.Intn(len(l))].ID
		before := 0
		if k := kids(t, l, parent); len(k) > 0 && r.Intn(2) == 0 {
			before = k[r.Intn(len(k))]
		}
		if m, e := Insert(l, n(99, parent, 1+r.Intn(11)), before); e == api.OK {
			checkPlace(t, l, m, 99, parent, before)
			if back, _ := Remove(m, 99); !slices.Equal(back, l) {
				t.Fatal("removing does not lead back")
			}
		}
		if m, e := Remove(l, id); e == api.OK {
			var want []api.Node
			for _, x := range l {
				if p, _ := Path(l, x.ID); !slices.Contains(p, id) {
					want = append(want, x)
				}
			}
			if !Valid(m) || !slices.Equal(m, want) {
				t.Fatalf("%v without %d is %v", l, id, m)
			}
		}
		if m, e := Move(l, id, parent, before); e == api.OK {
			checkPlace(t, l, m, id, parent, before)
			if len(m) != len(l) {
				t.Fatal("nodes are lost")
			}
		}
	}
}

// checkPlace looks whether a node is where it was put, and all other children are as they were.
func checkPlace(t *testing.T, l, m []api.Node, id, parent, before int) {
	t.Helper()
	if !Valid(m) {
		t.Fatalf("%v is no tree", m)
	}
	without := func(k []int) []int { return slices.DeleteFunc(k, func(x int) bool { return x == id }) }
	for _, x := range l {
		old, now := kids(t, l, x.ID), kids(t, m, x.ID)
		if x.ID == parent {
			i := slices.Index(now, id)
			if i < 0 || (before == 0) != (i == len(now)-1) || (before != 0 && now[i+1] != before) {
				t.Fatalf("%d before %d: %v", id, before, now)
			}
		}
		if x.ID != parent && slices.Contains(now, id) || !slices.Equal(without(old), without(now)) {
			t.Fatalf("children of %d: %v and %v", x.ID, old, now)
		}
		i, _, _ := Find(m, x.ID)
		same := m[i]
		same.Parent = x.Parent
		if same != x || (x.ID != id && m[i].Parent != x.Parent) {
			t.Fatalf("%v became %v", x, m[i])
		}
	}
}
