package bidi

import (
	"math/rand"
	"slices"
	"strings"
	"testing"

	"forme/api"
)

func random(r *rand.Rand, from string) string {
	b := make([]byte, r.Intn(12))
	for i := range b {
		b[i] = from[r.Intn(len(from))]
	}
	return string(b)
}

func seen(t *testing.T, s string, dir int) string {
	t.Helper()
	v, e := Visual(s, dir)
	if e != api.OK {
		t.Fatalf("%q: %v", s, e)
	}
	return v
}

func turned(s string) string {
	b := []byte(s)
	slices.Reverse(b)
	return string(b)
}

func TestExamples(t *testing.T) {
	for _, x := range []struct {
		s      string
		dir    int
		levels []int
		seen   string
	}{
		{"ab CD ef", 0, []int{0, 0, 0, 1, 1, 0, 0, 0}, "ab DC ef"},
		{"ab CD ef", 1, []int{2, 2, 1, 1, 1, 1, 2, 2}, "ef DC ab"},
		{"A12 3b", 0, []int{1, 2, 2, 1, 2, 0}, "3 12Ab"},
		{"12", 1, []int{2, 2}, "12"},
		{"12", 0, []int{0, 0}, "12"},
		{" A b", 0, []int{0, 1, 0, 0}, " A b"},
		{"A.B", 0, []int{1, 1, 1}, "B.A"},
		{"", 1, nil, ""},
	} {
		if l, e := Levels(x.s, x.dir); e != api.OK || !slices.Equal(l, x.levels) {
			t.Errorf("%q, %d: %v, %v", x.s, x.dir, l, e)
		}
		if v := seen(t, x.s, x.dir); v != x.seen {
			t.Errorf("%q, %d: %q", x.s, x.dir, v)
		}
	}
}

func TestPermutation(t *testing.T) {
	r := rand.New(rand.NewSource(1))
	for range 3000 {
		s, dir := random(r, "abcABC12 .~"), r.Intn(2)
		order, _ := Order(s, dir)
		place := make([]int, len(s))
		sorted := slices.Clone(order)
		slices.Sort(sorted)
		for i, n := range sorted {
			if i != n {
				t.Fatalf("%q: %v", s, order)
			}
		}
		for i, n := range order {
			place[n] = i
			if seen(t, s, dir)[i] != s[n] {
				t.Fatalf("%q: %v", s, order)
			}
		}
		l, _ := Levels(s, dir)
		for i := range len(s) {
			two := s[i:min(i+2, len(s))]
			switch {
			case strings.Trim(two, "abc") == "" && len(two) == 2, strings.Trim(two, "12") == "" && len(two) == 2:
				if place[i+1] != place[i]+1 {
					t.Fatalf("%q, %d: %v", s, dir, order)
				}
			case strings.Trim(two, "ABC") == "" && len(two) == 2:
				if place[i+1] != place[i]-1 {
					t.Fatalf("%q, %d: %v", s, dir, order)
				}
			}
			switch b := s[i]; {
			case b >= 'A' && b <= 'C' && l[i] != 1,
				(b >= 'a' && b <= 'c' || b == '1' || b == '2') && (l[i] == 1 || dir == 1 && l[i] != 2):
				t.Fatalf("%q, %d: %v", s, dir, l)
			}
		}
	}
}

func TestPlainMirrorAndParts(t *testing.T) {
	r := rand.New(rand.NewSource(2))
	swap := func(s string) string {
		b := []byte(s)
		for i, c := range b {
			if c >= 'A' && c <= 'C' || c >= 'a' && c <= 'c' {
				b[i] = c ^ 32
			}
		}
		return string(b)
	}
	for range 2000 {
		right, left := random(r, "abc12 ."), random(r, "ABC .")
		if seen(t, right, 0) != right || seen(t, left, 1) != turned(left) {
			t.Fatalf("%q or %q", right, left)
		}
		s, dir := random(r, "abcABC ."), r.Intn(2)
		if swap(seen(t, swap(s), 1-dir)) != turned(seen(t, s, dir)) {
			t.Fatalf("%q, %d has another mirror", s, dir)
		}
		x, y := random(r, "abcABC12 ."), random(r, "abcABC12 .")
		a, b := seen(t, x+"a", 0), seen(t, "b"+y, 0)
		if seen(t, x+"ab"+y, 0) != a+b {
			t.Fatalf("%q and %q", x, y)
		}
		a, b = seen(t, x+"A", 1), seen(t, "B"+y, 1)
		if seen(t, x+"AB"+y, 1) != b+a {
			t.Fatalf("%q and %q", x, y)
		}
	}
}

func TestErrors(t *testing.T) {
	for _, x := range []struct {
		s   string
		dir int
	}{{"a\n", 0}, {"a", 2}, {"a", -1}, {strings.Repeat("a", 2001), 0}} {
		l, e1 := Levels(x.s, x.dir)
		o, e2 := Order(x.s, x.dir)
		v, e3 := Visual(x.s, x.dir)
		if l != nil || o != nil || v != "" || e1 != api.ErrArg || e2 != api.ErrArg || e3 != api.ErrArg {
			t.Errorf("%q, %d: %v, %v, %v", x.s, x.dir, e1, e2, e3)
		}
	}
}
