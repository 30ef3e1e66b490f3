package margins

import (
	"math/rand"
	"slices"
	"testing"

	"forme/api"
)

func join1(t *testing.T, l ...int) int {
	t.Helper()
	n, e := Join(l...)
	if e != api.OK {
		t.Fatal(e)
	}
	return n
}

func random(r *rand.Rand) []int {
	l := make([]int, r.Intn(6))
	for i := range l {
		l[i] = r.Intn(21) - 10
	}
	return l
}

func items(r *rand.Rand) []api.Item {
	l := make([]api.Item, r.Intn(5))
	for i := range l {
		l[i] = api.Item{Above: r.Intn(21) - 10, Below: r.Intn(21) - 10, H: r.Intn(9)}
	}
	return l
}

func TestExamples(t *testing.T) {
	if join1(t, 10, 20, -5) != 15 || join1(t, -5, -8) != -8 || join1(t) != 0 || join1(t, 3, 5) != 5 {
		t.Error("joined margins")
	}
	for _, x := range []struct {
		l    []api.Item
		want []int
	}{
		{[]api.Item{{Above: 10, Below: 20}, {Above: 30, Below: -4}}, []int{10, 30, -4}},
		{nil, []int{0}},
		{[]api.Item{{Above: -3, Below: -4, H: 9}}, []int{-3, -4}},
	} {
		if m, e := Between(x.l); e != 0 || !slices.Equal(m, x.want) {
			t.Error(m, e)
		}
	}
}

func TestJoining(t *testing.T) {
	r := rand.New(rand.NewSource(1))
	for range 2000 {
		l := random(r)
		got := join1(t, l...)
		var pos, neg, opposite []int
		for _, n := range l {
			opposite = append(opposite, -n)
			if n >= 0 {
				pos = append(pos, n)
			} else {
				neg = append(neg, n)
			}
		}
		if len(pos) > 0 && join1(t, pos...) != slices.Max(pos) || len(neg) > 0 && join1(t, neg...) != slices.Min(neg) {
			t.Fatal("signs", l)
		}
		mixed := append(slices.Clone(l), l...)
		r.Shuffle(len(mixed), func(i, j int) { mixed[i], mixed[j] = mixed[j], mixed[i] })
		if got != join1(t, pos...)+join1(t, neg...) || got != join1(t, append(mixed, 0)...) || got != -join1(t, opposite...) {
			t.Fatal("order", l)
		}
		if len(l) > 0 {
			by := r.Intn(9)
			l[r.Intn(len(l))] += by
			if more := join1(t, l...); more < got || more > got+by {
				t.Fatal("growing", l)
			}
		}
	}
}

func TestParts(t *testing.T) {
	r := rand.New(rand.NewSource(2))
	for range 1000 {
		a, b := items(r), items(r)
		ma, _ := Between(a)
		mb, _ := Between(b)
		both, e := Between(append(slices.Clone(a), b...))
		want := append(slices.Clone(ma[:len(ma)-1]), join1(t, ma[len(ma)-1], mb[0]))
		want = append(want, mb[1:]...)
		if e != 0 || !slices.Equal(both, want) {
			t.Fatalf("%v and %v: %v", a, b, both)
		}
		turned := slices.Clone(a)
		slices.Reverse(turned)
		for i, x := range turned {
			turned[i] = api.Item{Above: x.Below, Below: x.Above, H: x.H + 1}
		}
		slices.Reverse(ma)
		if m, _ := Between(turned); !slices.Equal(m, ma) {
			t.Fatalf("%v turned: %v", a, m)
		}
	}
}

func TestErrors(t *testing.T) {
	if _, e := Join(make([]int, 4001)...); e != api.ErrLimit {
		t.Error(e)
	}
	if n, e := Join(append(make([]int, 3999), api.MaxCoord)...); n != api.MaxCoord || e != 0 {
		t.Error(n, e)
	}
	for _, n := range []int{api.MaxCoord + 1, -api.MaxCoord - 1} {
		if _, e := Join(1, n); e != api.ErrArg {
			t.Error(e)
		}
		if m, e := Between([]api.Item{{Above: n}}); e != api.ErrArg || m != nil {
			t.Error(e)
		}
		if _, e := Between([]api.Item{{Below: n}}); e != api.ErrArg {
			t.Error(e)
		}
		if _, e := Between([]api.Item{{H: n}}); e != api.ErrArg {
			t.Error(e)
		}
	}
	if _, e := Between([]api.Item{{H: -1}}); e != api.ErrArg {
		t.Error(e)
	}
	if _, e := Between(make([]api.Item, 4001)); e != api.ErrLimit {
		t.Error(e)
	}
	if m, e := Between(make([]api.Item, 4000)); e != 0 || len(m) != 4001 {
		t.Error(e)
	}
}
