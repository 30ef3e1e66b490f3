package stack

import (
	"math/rand"
	"slices"
	"testing"

	"forme/api"
	"forme/margins"
)

func random(r *rand.Rand) []api.Item {
	l := make([]api.Item, r.Intn(6))
	for i := range l {
		l[i] = api.Item{Above: r.Intn(41) - 20, Below: r.Intn(41) - 20, H: r.Intn(30)}
	}
	return l
}

func place(t *testing.T, from int, l []api.Item) ([]int, int) {
	t.Helper()
	p, end, e := Place(from, l)
	if e != api.OK {
		t.Fatal(e)
	}
	return p, end
}

func TestExample(t *testing.T) {
	l := []api.Item{{Above: 10, Below: 20, H: 5}, {Above: 30, Below: -4, H: 5}}
	if p, end := place(t, 100, l); !slices.Equal(p, []int{110, 145}) || end != 146 {
		t.Error(p, end)
	}
	if h, e := Height(l); h != 46 || e != 0 {
		t.Error(h, e)
	}
	if p, end := place(t, 7, nil); len(p) != 0 || end != 7 {
		t.Error(p, end)
	}
	if h, e := Height([]api.Item{{Above: -9, H: 3}}); h != 0 || e != 0 {
		t.Error(h, e)
	}
}

func TestPlaces(t *testing.T) {
	r := rand.New(rand.NewSource(1))
	for range 1000 {
		a, b := random(r), random(r)
		from := r.Intn(2001) - 1000
		p, end := place(t, from, a)
		m, _ := margins.Between(a)
		at := from
		for i, x := range a {
			if p[i] != at+m[i] {
				t.Fatalf("%v: item %d at %d", a, i, p[i])
			}
			at = p[i] + x.H
		}
		if end != at+m[len(a)] {
			t.Fatalf("%v: end %d", a, end)
		}
		q, far := place(t, from+50, a)
		for i := range p {
			if q[i] != p[i]+50 {
				t.Fatal("moving")
			}
		}
		if far != end+50 {
			t.Fatal("moving")
		}
		both, bothEnd := place(t, from, append(slices.Clone(a), b...))
		if len(b) > 0 {
			second, secondEnd := place(t, both[len(a)]-b[0].Above, b)
			if !slices.Equal(both, append(slices.Clone(p), second...)) || bothEnd != secondEnd {
				t.Fatalf("%v and %v: %v", a, b, both)
			}
		}
		if len(a) > 0 {
			i := r.Intn(len(a))
			a[i].H += 9
			grown, grownEnd := place(t, from, a)
			for j := range p {
				want := p[j]
				if j > i {
					want += 9
				}
				if grown[j] != want || grownEnd != end+9 {
					t.Fatal("growing")
				}
			}
		}
	}
}

func TestCut(t *testing.T) {
	for _, x := range []struct {
		h, most, want int
		cut           bool
		e             api.Errno
	}{
		{50, 46, 46, true, 0}, {50, 0, 50, false, 0}, {50, 50, 50, false, 0}, {50, 51, 50, false, 0}, {0, 1, 0, false, 0},
		{-1, 0, 0, false, api.ErrArg}, {0, -1, 0, false, api.ErrArg}, {api.MaxCoord + 1, 0, 0, false, api.ErrArg}, {0, api.MaxCoord + 1, 0, false, api.ErrArg},
	} {
		if h, cut, e := Cut(x.h, x.most); h != x.want || cut != x.cut || e != x.e {
			t.Errorf("cut of %d and %d: %d, %v, %v", x.h, x.most, h, cut, e)
		}
	}
}

func TestErrors(t *testing.T) {
	top := api.MaxCoord
	for i, x := range []struct {
		from int
		l    []api.Item
		want api.Errno
	}{
		{top + 1, make([]api.Item, 4001), api.ErrLimit},
		{top + 1, nil, api.ErrArg}, {-top - 1, nil, api.ErrArg}, {0, []api.Item{{H: -1}}, api.ErrArg}, {0, []api.Item{{Above: top + 1}}, api.ErrArg},
		{top, []api.Item{{H: 1}}, api.ErrRange}, {top, []api.Item{{Above: 1}}, api.ErrRange}, {top, []api.Item{{Below: 1}}, api.ErrRange},
		{-top, []api.Item{{Above: -1, H: 5}}, api.ErrRange}, {top, []api.Item{{}}, api.OK}, {-top, []api.Item{{}}, api.OK},
		{top, []api.Item{{H: 1, Below: -5}}, api.ErrRange},
	} {
		p, end, e := Place(x.from, x.l)
		if e != x.want || (e != 0 && (p != nil || end != 0)) {
			t.Errorf("case %d: %v", i, e)
		}
	}
	if _, e := Height(make([]api.Item, 4001)); e != api.ErrLimit {
		t.Error(e)
	}
	if _, e := Height([]api.Item{{H: top}, {H: 1}}); e != api.ErrRange {
		t.Error(e)
	}
}
