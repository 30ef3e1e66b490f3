package tracks

import (
	"math/rand"
	"slices"
	"testing"

	"forme/api"
)

func random(r *rand.Rand, limits bool) []api.Track {
	l := make([]api.Track, 1+r.Intn(6))
	for i := range l {
		l[i] = api.Track{Base: r.Intn(20), Grow: r.Intn(4)}
		if limits && r.Intn(2) == 0 {
			l[i].Max = max(1, l[i].Base+r.Intn(15))
		}
	}
	return l
}

func share1(t *testing.T, l []api.Track, space, gap int) []int {
	t.Helper()
	w, e := Share(l, space, gap)
	if e != api.OK {
		t.Fatal(e)
	}
	return w
}

func TestExamples(t *testing.T) {
	for i, x := range []struct {
		l          []api.Track
		space, gap int
		want       []int
	}{
		{[]api.Track{{Base: 10, Grow: 1}, {Grow: 1}, {Base: 5}}, 40, 2, []int{20, 11, 5}},
		{[]api.Track{{Grow: 1}, {Grow: 1}, {Grow: 1}}, 10, 0, []int{3, 3, 4}},
		{[]api.Track{{Grow: 1, Max: 2}, {Grow: 1}}, 10, 0, []int{2, 8}},
		{[]api.Track{{Base: 10, Grow: 1}, {Base: 20, Grow: 1}}, 25, 0, []int{10, 20}},
		{[]api.Track{{Grow: 1, Max: 2}, {Grow: 1, Max: 3}}, 10, 0, []int{2, 3}},
		{[]api.Track{{Base: 3}}, 10, 0, []int{3}},
		{[]api.Track{{Base: 3, Max: 3, Grow: 5}, {Grow: 1}}, 10, 1, []int{3, 6}},
		// In the first round only the second one is cut; then the first one is, too.
		{[]api.Track{{Grow: 2, Max: 9}, {Grow: 2, Max: 2}, {Grow: 1}}, 20, 0, []int{9, 2, 9}},
	} {
		if w := share1(t, x.l, x.space, x.gap); !slices.Equal(w, x.want) {
			t.Errorf("case %d: %v", i, w)
		}
	}
}

func TestSharing(t *testing.T) {
	r := rand.New(rand.NewSource(1))
	for range 3000 {
		l := random(r, true)
		space, gap := r.Intn(150), r.Intn(4)
		w := share1(t, l, space, gap)
		bases, used, open := gap*(len(l)-1), gap*(len(l)-1), false
		for i, x := range l {
			if w[i] < x.Base || x.Max != 0 && w[i] > x.Max || x.Grow == 0 && w[i] != x.Base {
				t.Fatalf("%v in %d: %v", l, space, w)
			}
			bases += x.Base
			used += w[i]
			open = open || x.Grow > 0 && (x.Max == 0 || w[i] < x.Max)
		}
		if bases <= space && (used > space || open && used != space) || bases > space && used != bases {
			t.Fatalf("%v in %d: %v", l, space, w)
		}
		for i, x := range l {
			for j, y := range l {
				cutI, cutJ := x.Max != 0 && w[i] == x.Max, y.Max != 0 && w[j] == y.Max
				if cutI || cutJ || x.Grow > y.Grow {
					continue
				}
				if w[j]-y.Base < w[i]-x.Base-1 {
					t.Fatalf("%v in %d: %v", l, space, w)
				}
			}
		}
	}
}

func TestMoreSpace(t *testing.T) {
	r := rand.New(rand.NewSource(2))
	for range 2000 {
		l := random(r, false)
		space, gap := r.Intn(150), r.Intn(4)
		w, wide := share1(t, l, space, gap), share1(t, l, space+r.Intn(20), gap)
		a, e := Starts(w, gap)
		b, e2 := Starts(wide, gap)
		if e != 0 || e2 != 0 || a[0] != 0 {
			t.Fatal(e, e2)
		}
		sum, grow := gap*(len(l)-1), 0
		for i, x := range l {
			if b[i] < a[i] || b[i]+wide[i] < a[i]+w[i] || i > 0 && a[i] != a[i-1]+w[i-1]+gap {
				t.Fatalf("%v: %v and %v", l, w, wide)
			}
			sum += x.Base
			grow += x.Grow
		}
		times := r.Intn(5)
		for i, n := range share1(t, l, sum+times*grow, gap) {
			if n != l[i].Base+times*l[i].Grow {
				t.Fatalf("%v, %d times: track %d is %d", l, times, i, n)
			}
		}
	}
}

func TestErrors(t *testing.T) {
	good := []api.Track{{}}
	for i, l := range [][]api.Track{
		nil, make([]api.Track, 65), {{Base: -1}}, {{Base: 1000001}}, {{Grow: -1}}, {{Grow: 1001}}, {{Base: 5, Max: 4}}, {{Max: 1000001}}, {{Max: -1}},
	} {
		if w, e := Share(l, 0, 0); Valid(l) || e != api.ErrArg || w != nil {
			t.Errorf("tracks %d are valid", i)
		}
	}
	if !Valid(good) || !Valid(make([]api.Track, 64)) || !Valid([]api.Track{{Base: 1000000, Grow: 1000, Max: 1000000}}) {
		t.Error("tracks at the limits")
	}
	for _, x := range [][2]int{{-1, 0}, {1000001, 0}, {0, -1}, {0, 100001}} {
		if _, e := Share(good, x[0], x[1]); e != api.ErrArg {
			t.Error(x, e)
		}
	}
	for i, x := range []struct {
		w   []int
		gap int
	}{{nil, 0}, {make([]int, 65), 0}, {[]int{-1}, 0}, {[]int{1000001}, 0}, {[]int{1}, -1}, {[]int{1}, 100001}} {
		if s, e := Starts(x.w, x.gap); e != api.ErrArg || s != nil {
			t.Errorf("starts %d: %v", i, e)
		}
	}
	if w := share1(t, make([]api.Track, 64), 1000000, 100000); w[63] != 0 {
		t.Error("gaps that are wider than the space")
	}
}
