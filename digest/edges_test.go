package digest

import (
	"testing"

	"forme/api"
)

func TestEdges(t *testing.T) {
	for _, x := range []struct {
		n    int
		want api.Errno
	}{{0, api.ErrArg}, {1, 0}, {api.MaxRows, 0}, {api.MaxRows + 1, api.ErrLimit}} {
		root, e := Root(make([]uint64, x.n))
		path, e2 := Path(make([]uint64, x.n), 0)
		if e != x.want || e2 != x.want || e != 0 && (root != 0 || path != nil) {
			t.Error(x.n, root, e, e2)
		}
	}
	l := []uint64{5, 6, 7}
	root, _ := Root(l)
	path, _ := Path(l, 1)
	for i, x := range []struct {
		i, n int
		want bool
	}{{1, 3, true}, {1, 0, false}, {-1, 3, false}, {3, 3, false}, {1, api.MaxRows + 1, false}, {0, 3, false}, {1, 2, false}, {1, 5, false}} {
		if Leads(root, 6, x.i, x.n, path) != x.want {
			t.Errorf("case %d", i)
		}
	}
	if Leads(Next(6, 0), 6, 0, 0, nil) || Leads(Next(6, 0), 6, -1, 1, nil) || Leads(Next(6, 0), 6, 1, 1, nil) || !Leads(Next(6, 0), 6, 0, 1, nil) {
		t.Error("a list of one")
	}
	for _, i := range []int{-1, 3} {
		if p, e := Path(l, i); e != api.ErrArg || p != nil {
			t.Error(i, e)
		}
	}
}
