package zone

import (
	"math/rand"
	"slices"
	"testing"

	"forme/api"
)

func z(lang, lo, hi, from, to int) api.Zone {
	return api.Zone{Lang: lang, Scale: api.Range{Lo: lo, Hi: hi}, Width: api.Range{Lo: from, Hi: to}}
}

func random(r *rand.Rand) []api.Zone {
	var l []api.Zone
	for range r.Intn(5) {
		s, w := 100+r.Intn(5), 200+r.Intn(8)
		l = append(l, z(r.Intn(2), s, s+r.Intn(3), w, w+r.Intn(4)))
	}
	return l
}

func readers() []api.Reader {
	var l []api.Reader
	for lang := range 2 {
		for s := 100; s < 108; s++ {
			for w := 200; w < 212; w++ {
				l = append(l, api.Reader{Lang: lang, Scale: s, Width: w})
			}
		}
	}
	return l
}

func in(l []api.Zone, r api.Reader) bool {
	ok, e := Has(l, r)
	return ok && e == api.OK
}

func TestExamples(t *testing.T) {
	l := []api.Zone{z(0, 100, 102, 200, 300), z(0, 101, 101, 301, 310)}
	want := []api.Zone{z(0, 100, 100, 200, 300), z(0, 101, 101, 200, 310), z(0, 102, 102, 200, 300)}
	if c, e := Canon(l); e != api.OK || !slices.Equal(c, want) {
		t.Errorf("%v, %v", c, e)
	}
	if n, e := Count(l); n != 313 || e != api.OK {
		t.Errorf("%d, %v", n, e)
	}
	if r, ok, e := Least(l); r != (api.Reader{Lang: 0, Scale: 100, Width: 200}) || !ok || e != api.OK {
		t.Errorf("%v, %v, %v", r, ok, e)
	}
	left, e := Less(l, []api.Zone{z(0, 101, 101, 200, 310)})
	if e != api.OK || !slices.Equal(left, []api.Zone{want[0], want[2]}) {
		t.Errorf("%v, %v", left, e)
	}
	if _, ok, e := Least(nil); ok || e != api.OK {
		t.Error("nobody is the least")
	}
}

// slowCanon makes the canonical form scale by scale and width by width.
func slowCanon(l []api.Zone) []api.Zone {
	var out []api.Zone
	for lang := range api.Langs {
		var open []api.Zone
		for s := api.MinScale; s <= api.MaxScale+1; s++ {
			var row []api.Zone
			for w := 200; w < 215 && s <= api.MaxScale; w++ {
				if !in(l, api.Reader{Lang: lang, Scale: s, Width: w}) {
					continue
				}
				if n := len(row); n > 0 && row[n-1].Width.Hi == w-1 {
					row[n-1].Width.Hi = w
				} else {
					row = append(row, z(lang, s, s, w, w))
				}
			}
			if slices.EqualFunc(row, open, func(a, b api.Zone) bool { return a.Width == b.Width }) {
				for i := range open {
					open[i].Scale.Hi = s
				}
				continue
			}
			out, open = append(out, open...), row
		}
	}
	return out
}

func TestSets(t *testing.T) {
	r := rand.New(rand.NewSource(1))
	all := readers()
	for range 300 {
		a, b := random(r), random(r)
		ca, e1 := Canon(a)
		u, e2 := Union(a, b)
		m, e3 := Meet(a, b)
		d, e4 := Less(a, b)
		if e1 != 0 || e2 != 0 || e3 != 0 || e4 != 0 {
			t.Fatal(e1, e2, e3, e4)
		}
		if !slices.Equal(ca, slowCanon(a)) {
			t.Fatalf("canon of %v is %v, want %v", a, ca, slowCanon(a))
		}
		for _, x := range all {
			ia, ib := in(a, x), in(b, x)
			if in(ca, x) != ia || in(u, x) != (ia || ib) || in(m, x) != (ia && ib) || in(d, x) != (ia && !ib) {
				t.Fatalf("%v of %v and %v", x, a, b)
			}
		}
		again, _ := Canon(ca)
		mixed := slices.Clone(a)
		r.Shuffle(len(mixed), func(i, j int) { mixed[i], mixed[j] = mixed[j], mixed[i] })
		other, _ := Canon(append(mixed, ca...))
		back, _ := Union(m, d)
		if !slices.Equal(again, ca) || !slices.Equal(other, ca) || !slices.Equal(back, ca) {
			t.Fatalf("forms of %v: %v, %v, %v", a, again, other, back)
		}
		counts(t, all, a, b, u, m, ca)
	}
}

func counts(t *testing.T, all []api.Reader, a, b, u, m, ca []api.Zone) {
	t.Helper()
	na, _ := Count(a)
	nb, _ := Count(b)
	nu, _ := Count(u)
	nm, _ := Count(m)
	sum, want := 0, 0
	for _, z := range ca {
		sum += (z.Scale.Hi - z.Scale.Lo + 1) * (z.Width.Hi - z.Width.Lo + 1)
	}
	least, found := api.Reader{}, false
	for _, x := range all {
		if in(a, x) {
			want++
			if !found {
				least, found = x, true
			}
		}
	}
	if na+nb != nu+nm || na != sum || na != want {
		t.Fatalf("%d + %d, %d + %d, %d", na, nb, nu, nm, sum)
	}
	if x, ok, e := Least(a); x != least || ok != found || e != api.OK {
		t.Fatalf("least of %v: %v", a, x)
	}
}

func TestErrors(t *testing.T) {
	good := z(0, 100, 100, 200, 200)
	many := make([]api.Zone, 1001)
	for i := range many {
		many[i] = good
	}
	for i, l := range [][]api.Zone{
		many,
		{good, z(4, 100, 100, 200, 200)}, {z(-1, 100, 100, 200, 200)},
		{z(0, 101, 100, 200, 200)}, {z(0, 49, 100, 200, 200)}, {z(0, 100, 301, 200, 200)},
		{z(0, 100, 100, 201, 200)}, {z(0, 100, 100, 199, 200)}, {z(0, 100, 100, 200, 4001)},
	} {
		_, e1 := Has(l, api.Reader{Scale: 100, Width: 200})
		_, e2 := Canon(l)
		_, e3 := Union(nil, l)
		_, e4 := Meet(l, nil)
		_, e5 := Less(nil, l)
		_, _, e6 := Least(l)
		_, e7 := Count(l)
		for _, e := range []api.Errno{e1, e2, e3, e4, e5, e6, e7} {
			if Valid(l) || e != api.ErrArg {
				t.Errorf("list %d: %v", i, e)
			}
		}
	}
	for _, r := range []api.Reader{{Width: 199, Scale: 100}, {Width: 4001, Scale: 100}, {Width: 200, Scale: 49}, {Width: 200, Scale: 301}, {Width: 200, Scale: 100, Lang: 4}, {Width: 200, Scale: 100, Lang: -1}} {
		if ok, e := Has([]api.Zone{good}, r); ok || e != api.ErrArg {
			t.Errorf("%v is a reader", r)
		}
	}
}

func TestLimit(t *testing.T) {
	var l []api.Zone
	for i := range 500 {
		l = append(l, z(0, 50, 299, 200+2*i, 200+2*i))
	}
	cut := []api.Zone{z(0, 100, 100, 200, 200)}
	if c, e := Canon(l); e != api.OK || len(c) != 500 {
		t.Errorf("%d, %v", len(c), e)
	}
	if c, e := Less(l, cut); e != api.ErrLimit || c != nil {
		t.Errorf("%d, %v", len(c), e)
	}
	if n, e := Count(append(l, z(0, 100, 100, 200, 1200))); e != api.OK || n != 500*250+501 {
		t.Errorf("%d, %v", n, e)
	}
}
