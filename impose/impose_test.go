package impose

import (
	"slices"
	"testing"

	"forme/api"
)

func TestExample(t *testing.T) {
	want := []api.Face{{Sheet: 1, Right: 1}, {Sheet: 1, Back: true, Left: 2}, {Sheet: 2, Left: 6, Right: 3}, {Sheet: 2, Back: true, Left: 4, Right: 5}}
	l, e := Faces(6)
	if e != 0 || !slices.Equal(l, want) {
		t.Error(l, e)
	}
	if o, e := Order(want); e != 0 || !slices.Equal(o, []int{1, 2, 3, 4, 5, 6, 0, 0}) {
		t.Error(o, e)
	}
	if f, right, e := Where(6, 3); e != 0 || !right || f != want[2] {
		t.Error(f, right, e)
	}
	if f, right, e := Where(6, 4); e != 0 || right || f != want[3] {
		t.Error(f, right, e)
	}
}

func TestRefused(t *testing.T) {
	for _, n := range []int{-1, 501} {
		l, e := Faces(n)
		f, right, e2 := Where(n, 1)
		if e != api.ErrArg || e2 != api.ErrArg || l != nil || right || f != (api.Face{}) {
			t.Error(n, e, e2)
		}
	}
	for _, page := range []int{-1, 0, 7, 8, 501} {
		if f, right, e := Where(6, page); e != api.ErrNone || right || f != (api.Face{}) {
			t.Error(page, e)
		}
	}
	if _, _, e := Where(0, 1); e != api.ErrNone {
		t.Error(e)
	}
	good, _ := Faces(8)
	for i, change := range []func(l []api.Face) []api.Face{
		func(l []api.Face) []api.Face { return l[:3] }, func(l []api.Face) []api.Face { l[2].Sheet = 1; return l }, func(l []api.Face) []api.Face { l[1].Back = false; return l },
		func(l []api.Face) []api.Face { l[0].Back = true; return l }, func(l []api.Face) []api.Face { l[0].Left = -1; return l }, func(l []api.Face) []api.Face { l[3].Right = 501; return l },
		func(l []api.Face) []api.Face { l[0], l[1] = l[1], l[0]; return l }, func(l []api.Face) []api.Face { return l[2:] },
	} {
		if o, e := Order(change(slices.Clone(good))); e != api.ErrArg || o != nil {
			t.Errorf("case %d: %v", i, e)
		}
	}
	var many []api.Face
	for s := range 126 {
		many = append(many, api.Face{Sheet: s + 1, Left: 500}, api.Face{Sheet: s + 1, Back: true, Right: 500})
	}
	if o, e := Order(many); e != api.ErrArg || o != nil {
		t.Error(e)
	}
	if o, e := Order(many[:250]); e != 0 || len(o) != 500 {
		t.Error(e)
	}
	if o, e := Order(nil); e != 0 || len(o) != 0 {
		t.Error(o, e)
	}
}

func TestBooklets(t *testing.T) {
	for n := range 501 {
		l, e := Faces(n)
		sheets := len(l) / 2
		if e != 0 || 4*sheets < n || 4*sheets-n > 3 {
			t.Fatal(n, e)
		}
		order, e := Order(l)
		if e != 0 || len(order) != 4*sheets {
			t.Fatal(n, e)
		}
		for i, p := range order {
			if i < n && p != i+1 || i >= n && p != 0 {
				t.Fatal(n, order)
			}
		}
		for _, f := range l {
			if f.Left%2 != 0 || f.Right != 0 && f.Right%2 != 1 {
				t.Fatal(n, f)
			}
			if f.Left != 0 && f.Right != 0 && f.Left+f.Right != 4*sheets+1 || (f.Left == 0 || f.Right == 0) && f.Sheet > 2 {
				t.Fatal(n, f)
			}
		}
		if n < 40 || n > 495 || n%60 == 0 {
			moved(t, n, l)
		}
	}
}

// moved looks whether each page is found, and stays where it is in a booklet without empty pages.
func moved(t *testing.T, n int, l []api.Face) {
	t.Helper()
	full := len(l) * 2
	for p := 1; p <= n; p++ {
		f, right, e := Where(n, p)
		if e != 0 || !slices.Contains(l, f) || right && f.Right != p || !right && f.Left != p {
			t.Fatal(n, p, f, right, e)
		}
		if full > api.MaxPages {
			continue
		}
		g, same, _ := Where(full, p)
		if g.Sheet != f.Sheet || g.Back != f.Back || same != right {
			t.Fatal(n, p, f, g)
		}
	}
}
