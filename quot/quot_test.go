package quot

import (
	"math/rand"
	"testing"

	"forme/api"
)

func before(a, b api.Quot) bool {
	size := func(n int) int { return max(n, -n) }
	switch {
	case a.D != b.D:
		return a.D < b.D
	case size(a.A) != size(b.A):
		return size(a.A) < size(b.A)
	case a.A != b.A:
		return a.A < b.A
	}
	return a.B < b.B
}

func fits(q api.Quot, l []int) bool {
	for n, v := range l {
		if w, e := At(q, n); e != api.OK || w != v {
			return false
		}
	}
	return true
}

// slowFit tries all small quotients.
func slowFit(l []int, most int) (api.Quot, bool) {
	best, found := api.Quot{}, false
	for d := 1; d <= api.MaxDen; d++ {
		for a := -most; a <= most; a++ {
			for b := d*l[0] - 1; b <= d*l[0]+d; b++ {
				q := api.Quot{A: a, B: b, D: d}
				if (!found || before(q, best)) && fits(q, l) {
					best, found = q, true
				}
			}
		}
	}
	return best, found
}

func made(q api.Quot, n int) []int {
	l := make([]int, n)
	for i := range l {
		l[i], _ = At(q, i)
	}
	return l
}

func TestFloors(t *testing.T) {
	r := rand.New(rand.NewSource(1))
	for range 2000 {
		q := api.Quot{A: r.Intn(2001) - 1000, B: r.Intn(2001) - 1000, D: 1 + r.Intn(16)}
		n := r.Intn(4001)
		v, e := At(q, n)
		if top := q.A*n + q.B; e != api.OK || v*q.D > top || v*q.D <= top-q.D {
			t.Fatalf("%v at %d is %d, %v", q, n, v, e)
		}
		if n < 4000 {
			w, _ := At(q, n+1)
			low := floor(q.A, q.D)
			if step := w - v; step != low && !(step == low+1 && q.A%q.D != 0) {
				t.Fatalf("%v steps by %d at %d", q, step, n)
			}
		}
	}
}

func TestFitIsTheFirst(t *testing.T) {
	r := rand.New(rand.NewSource(2))
	for range 300 {
		l := make([]int, 1+r.Intn(6))
		for i := range l {
			l[i] = r.Intn(5) - 2
		}
		got, found, e := Fit(l)
		want, there := slowFit(l, 80)
		if e != api.OK || found != there || got != want {
			t.Fatalf("fit of %v is %v, %v; want %v, %v", l, got, found, want, there)
		}
	}
}

func TestFitOfMadeLists(t *testing.T) {
	r := rand.New(rand.NewSource(3))
	for range 300 {
		q := api.Quot{A: r.Intn(101) - 50, B: r.Intn(101) - 50, D: 1 + r.Intn(16)}
		l := made(q, 1+r.Intn(60))
		got, found, e := Fit(l)
		if e != api.OK || !found || !fits(got, l) || before(q, got) {
			t.Fatalf("fit of %v: %v, %v, %v", q, got, found, e)
		}
		if !fits(got, l[:1+r.Intn(len(l))]) {
			t.Fatalf("%v does not fit a beginning", got)
		}
		by := r.Intn(20000001) - 10000000
		moved := make([]int, len(l))
		for i, v := range l {
			moved[i] = v + by
		}
		want := api.Quot{A: got.A, B: got.B + by*got.D, D: got.D}
		if m, ok, _ := Fit(moved); !ok || m != want {
			t.Fatalf("moved fit %v, want %v", m, want)
		}
		if a, e := Add(got, by); e != api.OK || a != want {
			t.Fatalf("add %v, %v", a, e)
		}
	}
}

func TestFitLimits(t *testing.T) {
	for i, x := range []struct {
		l    []int
		want api.Quot
		ok   bool
		e    api.Errno
	}{
		{[]int{0, 5, 0}, api.Quot{}, false, api.OK},
		{[]int{0, 1, 3}, api.Quot{A: 3, D: 2}, true, api.OK},
		{[]int{api.MaxCoord, 0}, api.Quot{A: -api.MaxCoord, B: api.MaxCoord, D: 1}, true, api.OK},
		{[]int{api.MaxCoord, -1}, api.Quot{}, false, api.OK},
		{nil, api.Quot{}, false, api.ErrArg},
		{[]int{-api.MaxCoord - 1}, api.Quot{}, false, api.ErrArg},
		{append(make([]int, 4000), api.MaxCoord+1), api.Quot{}, false, api.ErrLimit},
	} {
		if q, ok, e := Fit(x.l); q != x.want || ok != x.ok || e != x.e {
			t.Errorf("case %d: %v, %v, %v", i, q, ok, e)
		}
	}
}

func TestBelowIsTheLeast(t *testing.T) {
	r := rand.New(rand.NewSource(4))
	for range 500 {
		q := api.Quot{A: r.Intn(21) - 10, B: r.Intn(201) - 100, D: 1 + r.Intn(16)}
		s := api.Quot{A: r.Intn(21) - 10, B: r.Intn(201) - 100, D: 1 + r.Intn(16)}
		last := r.Intn(300)
		want, there := 0, false
		for n := last; n >= 0; n-- {
			v, _ := At(q, n)
			w, _ := At(s, n)
			if v < w {
				want, there = n, true
			}
		}
		if got, found, e := Below(q, s, last); got != want || found != there || e != api.OK {
			t.Fatalf("below %v %v %d: %d, %v, %v", q, s, last, got, found, e)
		}
	}
	if n, ok, e := Below(api.Quot{}, api.Quot{D: 1}, 3); n != 0 || ok || e != api.ErrArg {
		t.Error("a quotient that is not valid was compared")
	}
}

func TestInvalidQuotients(t *testing.T) {
	for _, q := range []api.Quot{{}, {D: 17}, {D: -1}, {A: api.MaxCoord + 1, D: 1}, {B: -api.MaxCoord - 1, D: 1}} {
		if _, e := At(q, 0); Valid(q) || e != api.ErrArg {
			t.Errorf("%v is valid", q)
		}
		if _, e := Add(q, 0); e != api.ErrArg {
			t.Errorf("%v was added to", q)
		}
	}
	if _, e := At(api.Quot{D: 1}, 4001); e != api.ErrArg {
		t.Error("4001 is a place")
	}
	if _, e := Add(api.Quot{B: 1, D: 1}, api.MaxCoord); e != api.ErrRange {
		t.Error("B can be too great")
	}
}
