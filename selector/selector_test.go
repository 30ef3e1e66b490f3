package selector

import (
	"math/rand"
	"slices"
	"testing"

	"forme/api"
	"forme/tree"
)

func example() []api.Node {
	return []api.Node{{ID: 1, Kind: api.KindBlock}, {ID: 2, Parent: 1, Kind: api.KindBlock, Class: 7}, {ID: 3, Parent: 2, Kind: api.KindText}}
}

func random(r *rand.Rand) []api.Node {
	l := example()
	for id := 4; id < 15; id++ {
		n := api.Node{ID: id, Parent: 1 + r.Intn(id-1), Kind: 1 + r.Intn(3), Class: r.Intn(3)}
		if m, e := tree.Insert(l, n, 0); e == api.OK {
			l = m
		}
	}
	return l
}

func randomTests(r *rand.Rand) []api.Test {
	l := make([]api.Test, 1+r.Intn(4))
	for i := range l {
		l[i] = api.Test{Kind: r.Intn(3), Class: r.Intn(2), Child: i > 0 && r.Intn(2) == 0}
		if r.Intn(5) == 0 {
			l[i].ID = 1 + r.Intn(5)
		}
	}
	return l
}

func matches(t *testing.T, nodes []api.Node, l []api.Test, id int) bool {
	t.Helper()
	ok, e := Matches(nodes, l, id)
	if e != api.OK {
		t.Fatal(e)
	}
	return ok
}

// slow follows the words of the document.
func slow(nodes []api.Node, l []api.Test, id int) bool {
	path, _ := tree.Path(nodes, id)
	i, _, _ := tree.Find(nodes, id)
	n, x := nodes[i], l[len(l)-1]
	if x.Kind != 0 && x.Kind != n.Kind || x.Class != 0 && x.Class != n.Class || x.ID != 0 && x.ID != n.ID {
		return false
	}
	if len(l) == 1 {
		return true
	}
	for k := len(path) - 2; k >= 0; k-- {
		if slow(nodes, l[:len(l)-1], path[k]) {
			return true
		}
		if x.Child {
			break
		}
	}
	return false
}

func TestExamples(t *testing.T) {
	nodes := example()
	block, text := api.Test{Kind: api.KindBlock}, api.Test{Kind: api.KindText}
	child := func(x api.Test) api.Test { x.Child = true; return x }
	for i, x := range []struct {
		l      []api.Test
		want   []int
		weight int
	}{
		{[]api.Test{block, text}, []int{3}, 2},
		{[]api.Test{block, child(text)}, []int{3}, 2},
		{[]api.Test{{Class: 7}, child(block)}, nil, 101},
		{[]api.Test{{ID: 1}, text}, []int{3}, 10001},
		{[]api.Test{{ID: 1}, child(text)}, nil, 10001},
		{[]api.Test{{}}, []int{1, 2, 3}, 0},
		{[]api.Test{{Kind: 1, Class: 7, ID: 2}}, []int{2}, 10101},
	} {
		if l, e := All(nodes, x.l); e != api.OK || !slices.Equal(l, x.want) {
			t.Errorf("case %d: %v, %v", i, l, e)
		}
		if w, e := Weight(x.l); e != api.OK || w != x.weight {
			t.Errorf("case %d: %d, %v", i, w, e)
		}
	}
}

func TestProperties(t *testing.T) {
	r := rand.New(rand.NewSource(1))
	for range 500 {
		nodes, l := random(r), randomTests(r)
		all, e := All(nodes, l)
		if e != api.OK {
			t.Fatal(e)
		}
		var want []int
		loose := slices.Clone(l)
		switch i := r.Intn(len(l)); r.Intn(4) {
		case 0:
			loose[i].Kind = 0
		case 1:
			loose[i].Class = 0
		case 2:
			loose[i].ID = 0
		case 3:
			loose[i].Child = false
		}
		tail := slices.Clone(l[r.Intn(len(l)):])
		tail[0].Child = false
		for _, n := range nodes {
			ok := matches(t, nodes, l, n.ID)
			if ok != slow(nodes, l, n.ID) {
				t.Fatalf("%v of %v at %d", l, nodes, n.ID)
			}
			if ok {
				want = append(want, n.ID)
				if !matches(t, nodes, loose, n.ID) || !matches(t, nodes, tail, n.ID) {
					t.Fatalf("%v matches %d, but %v or %v does not", l, n.ID, loose, tail)
				}
			}
			onlyPath(t, nodes, l, n.ID, ok)
		}
		if !slices.Equal(all, want) {
			t.Fatalf("%v matches %v, not %v", l, want, all)
		}
		m := randomTests(r)
		w1, _ := Weight(l)
		w2, _ := Weight(m)
		w3, _ := Weight(append(slices.Clone(l), m...))
		if w4, _ := Weight(loose); w3 != w1+w2 || w4 > w1 {
			t.Fatal("weights")
		}
	}
}

// onlyPath looks whether a node is matched likewise in a tree of its path alone.
func onlyPath(t *testing.T, nodes []api.Node, l []api.Test, id int, want bool) {
	t.Helper()
	path, _ := tree.Path(nodes, id)
	var few []api.Node
	for _, n := range nodes {
		if slices.Contains(path, n.ID) {
			few = append(few, n)
		}
	}
	if matches(t, few, l, id) != want {
		t.Fatalf("%v at %d depends on other nodes", l, id)
	}
}

func TestLongSelector(t *testing.T) {
	nodes := []api.Node{{ID: 1, Kind: 1}}
	for id := 2; id <= 30; id++ {
		nodes = append(nodes, api.Node{ID: id, Parent: id - 1, Kind: 1})
	}
	l := make([]api.Test, 8)
	l[0].ID = 99
	if matches(t, nodes, l, 30) {
		t.Error("a node that is not there is above")
	}
}

func TestErrors(t *testing.T) {
	nodes := example()
	for i, l := range [][]api.Test{
		nil, make([]api.Test, 9), {{Child: true}}, {{Kind: 12}}, {{Kind: -1}}, {{Class: 101}}, {{Class: -1}}, {{ID: 1000001}}, {{ID: -1}}, {{}, {Kind: 12}},
	} {
		_, e1 := Matches(nodes, l, 9)
		_, e2 := All(nodes, l)
		if _, e3 := Weight(l); Valid(l) || e1 != api.ErrArg || e2 != api.ErrArg || e3 != api.ErrArg {
			t.Errorf("selector %d is valid", i)
		}
	}
	if _, e := Matches(nil, []api.Test{{}}, 1); e != api.ErrArg {
		t.Error(e)
	}
	if _, e := All(nil, []api.Test{{}}); e != api.ErrArg {
		t.Error(e)
	}
	for _, id := range []int{9, 0, -1, 2000000} {
		if _, e := Matches(nodes, []api.Test{{}}, id); e != api.ErrNone {
			t.Error(id, e)
		}
	}
	if !Valid(make([]api.Test, 8)) {
		t.Error("eight tests are not valid")
	}
}
