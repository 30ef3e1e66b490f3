package curve

import (
	"math/rand"
	"slices"
	"testing"

	"forme/api"
	"forme/quot"
)

func random(r *rand.Rand) []int {
	l := make([]int, 1+r.Intn(60))
	step := 1 + r.Intn(4)
	for i := range l {
		l[i] = i / step
		if r.Intn(8) == 0 {
			l[i] += r.Intn(5)
		}
	}
	return l
}

func TestExamples(t *testing.T) {
	l, e := Make(200, []int{0, 0, 1, 1, 2})
	if e != api.OK || !slices.Equal(l, []api.Part{{From: 200, Until: 205, F: api.Quot{A: 1, D: 2}}}) {
		t.Errorf("%v, %v", l, e)
	}
	if v, e := At(l, 203); v != 1 || e != api.OK {
		t.Errorf("%d, %v", v, e)
	}
	l, e = Make(7, []int{0, 5, 0})
	want := []api.Part{{From: 7, Until: 9, F: api.Quot{A: 5, D: 1}}, {From: 9, Until: 10, F: api.Quot{D: 1}}}
	if e != api.OK || !slices.Equal(l, want) {
		t.Errorf("%v, %v", l, e)
	}
	if v, e := At(l, 8); v != 5 || e != api.OK {
		t.Errorf("%d, %v", v, e)
	}
}

func TestValuesAndForm(t *testing.T) {
	r := rand.New(rand.NewSource(1))
	for range 300 {
		values := random(r)
		from := r.Intn(3000)
		l, e := Make(from, values)
		if e != api.OK || !Valid(l) {
			t.Fatalf("%v: %v", values, e)
		}
		if got, e := Values(l); e != api.OK || !slices.Equal(got, values) {
			t.Fatalf("values %v, %v", got, e)
		}
		for _, p := range l {
			part := values[p.From-from : p.Until-from]
			if q, ok, _ := quot.Fit(part); !ok || q != p.F {
				t.Fatalf("%v is not the first quotient", p)
			}
			if end := p.Until - from; end < len(values) {
				if _, ok, _ := quot.Fit(values[p.From-from : end+1]); ok {
					t.Fatalf("%v could be longer", p)
				}
			}
		}
		moved, _ := Make(from+5, values)
		for i, p := range moved {
			if p.From != l[i].From+5 || p.Until != l[i].Until+5 || p.F != l[i].F {
				t.Fatalf("moved %v, %v", l[i], p)
			}
		}
		n := 1 + r.Intn(len(values))
		first, _ := Make(from, values[:n])
		if len(first) > len(l) || !slices.Equal(first[:len(first)-1], l[:len(first)-1]) {
			t.Fatalf("beginning %v of %v", first, l)
		}
	}
}

func TestSums(t *testing.T) {
	r := rand.New(rand.NewSource(2))
	for range 100 {
		v := random(r)
		w := make([]int, len(v))
		for i := range w {
			w[i] = r.Intn(4)
		}
		a, _ := Make(9, v)
		b, _ := Make(9, w)
		s, e := Sum(a, b)
		m, e2 := Max(a, b)
		if e != api.OK || e2 != api.OK {
			t.Fatal(e, e2)
		}
		vs, _ := Values(s)
		vm, _ := Values(m)
		for i := range v {
			if vs[i] != v[i]+w[i] || vm[i] != max(v[i], w[i]) {
				t.Fatalf("%d: %d and %d", i, vs[i], vm[i])
			}
		}
		s2, _ := Sum(b, a)
		m2, _ := Max(b, a)
		if !slices.Equal(s, s2) || !slices.Equal(m, m2) {
			t.Fatal("the order plays a part")
		}
	}
}

func TestErrors(t *testing.T) {
	for i, x := range []struct {
		from   int
		values []int
		e      api.Errno
	}{
		{0, make([]int, 4001), api.ErrLimit},
		{-1, make([]int, 4001), api.ErrLimit},
		{0, nil, api.ErrArg},
		{-1, []int{1}, api.ErrArg},
		{0, []int{api.MaxCoord + 1}, api.ErrArg},
		{4001, []int{1}, api.ErrArg},
		{4000, []int{1}, api.OK},
		{1, make([]int, 4000), api.OK},
		{2, make([]int, 4000), api.ErrArg},
		{1 << 62, []int{1}, api.ErrArg},
	} {
		if l, e := Make(x.from, x.values); e != x.e || (e != api.OK && l != nil) {
			t.Errorf("case %d: %v", i, e)
		}
	}
	one := api.Quot{B: 1, D: 1}
	for i, l := range [][]api.Part{
		nil,
		{{From: 1, Until: 1, F: one}},
		{{From: 1, Until: 3, F: one}, {From: 4, Until: 5, F: one}},
		{{From: 1, Until: 3, F: one}, {From: 3, Until: 5, F: one}},
		{{From: 1, Until: 3, F: api.Quot{B: 2, D: 2}}},
		{{From: -1, Until: 3, F: one}},
		{{From: 1, Until: 4002, F: one}},
		{{From: 0, Until: 4001, F: one}},
		{{From: 0, Until: 2, F: api.Quot{A: api.MaxCoord, B: 1, D: 1}}},
		{{From: -1 << 63, Until: 1<<63 - 1, F: one}},
	} {
		_, e := Values(l)
		_, e2 := Sum(l, l)
		if _, e3 := At(l, 1); Valid(l) || e != api.ErrArg || e2 != api.ErrArg || e3 != api.ErrArg {
			t.Errorf("list %d is valid", i)
		}
	}
	a, _ := Make(1, []int{1, 2})
	b, _ := Make(2, []int{1, 2})
	c, _ := Make(1, []int{1, 2, 3})
	if _, e := Sum(a, b); e != api.ErrArg {
		t.Error("other numbers were added")
	}
	if _, e := Max(a, c); e != api.ErrArg {
		t.Error("more numbers were joined")
	}
	if _, e := At(a, 3); e != api.ErrArg {
		t.Error("there is a value after the end")
	}
	if _, e := At(a, 0); e != api.ErrArg {
		t.Error("there is a value before the beginning")
	}
	big, _ := Make(1, []int{api.MaxCoord, 2})
	if _, e := Sum(big, a); e != api.ErrRange {
		t.Error("a sum is too great")
	}
}

func TestLong(t *testing.T) {
	values := make([]int, 4000)
	for i := range values {
		values[i] = (i * 7) / 13
	}
	if l, e := Make(1, values); e != api.OK || len(l) != 1 {
		t.Errorf("%d parts, %v", len(l), e)
	}
}
