package codec

import (
	"bytes"
	"math"
	"math/rand"
	"slices"
	"strings"
	"testing"

	"forme/api"
)

func random(r *rand.Rand) []int {
	l := make([]int, r.Intn(8))
	for i := range l {
		l[i] = int(r.Uint64()) >> r.Intn(64)
	}
	return l
}

func TestPutAndGet(t *testing.T) {
	for _, x := range []struct {
		l []int
		b []byte
	}{
		{nil, []byte{0}},
		{[]int{0, -1, 64}, []byte{6, 0, 1, 128, 1}},
		{[]int{math.MinInt}, []byte{2, 255, 255, 255, 255, 255, 255, 255, 255, 255, 1}},
		{[]int{math.MaxInt}, []byte{2, 254, 255, 255, 255, 255, 255, 255, 255, 255, 1}},
	} {
		if b, e := Put(x.l); e != api.OK || !bytes.Equal(b, x.b) {
			t.Errorf("%v: %v, %v", x.l, b, e)
		}
		if l, e := Get(x.b); e != api.OK || !slices.Equal(l, x.l) {
			t.Errorf("%v: %v, %v", x.b, l, e)
		}
	}
	r := rand.New(rand.NewSource(1))
	for range 1000 {
		l := random(r)
		b, _ := Put(l)
		if got, e := Get(b); e != api.OK || !slices.Equal(got, l) {
			t.Fatalf("%v: %v, %v", l, got, e)
		}
		for n := range b {
			if _, e := Get(b[:n]); e != api.ErrForm {
				t.Fatal("a beginning is read")
			}
		}
		if _, e := Get(append(b, 0)); e != api.ErrForm {
			t.Fatal("more bytes are read")
		}
		c := make([]byte, r.Intn(6))
		for i := range c {
			c[i] = []byte{0, 1, 2, 4, 127, 128, 255}[r.Intn(7)]
		}
		if got, e := Get(c); e == api.OK {
			if d, _ := Put(got); !bytes.Equal(c, d) {
				t.Fatalf("%v and %v are read as %v", c, d, got)
			}
		}
	}
}

func TestForms(t *testing.T) {
	for i, b := range [][]byte{
		nil, {2, 128, 0}, {2}, {0, 0}, {1}, {2, 128}, {194, 62},
		{2, 255, 255, 255, 255, 255, 255, 255, 255, 255, 2},
		{2, 255, 255, 255, 255, 255, 255, 255, 255, 255, 129, 0},
	} {
		if l, e := Get(b); e != api.ErrForm || l != nil {
			t.Errorf("case %d: %v, %v", i, l, e)
		}
	}
	if _, e := Put(make([]int, 4001)); e != api.ErrLimit {
		t.Error(e)
	}
	if _, e := Frame(make([]int, 4001)); e != api.ErrLimit {
		t.Error(e)
	}
	b, e := Put(make([]int, 4000))
	if l, e2 := Get(b); e != api.OK || e2 != api.OK || len(l) != 4000 {
		t.Error(e, e2)
	}
	many := append(put(nil, 4001), make([]byte, 4001)...)
	if _, e := Get(many); e != api.ErrForm {
		t.Error("a list with 4001 integers is read")
	}
}

func TestStrings(t *testing.T) {
	if l, e := Text("ab"); e != api.OK || !slices.Equal(l, []int{2, 97, 98}) {
		t.Error(l, e)
	}
	for _, s := range []string{"", "x", "\x00\xff", strings.Repeat("q", 2000)} {
		l, e := Text(s)
		if got, n, e2 := Read(append(l, 5, -1)); got != s || n != len(s)+1 || e != 0 || e2 != 0 {
			t.Errorf("%q: %q, %d, %v, %v", s, got, n, e, e2)
		}
	}
	if _, e := Text(strings.Repeat("q", 2001)); e != api.ErrLimit {
		t.Error(e)
	}
	for i, l := range [][]int{nil, {1}, {-1}, {1, 256}, {1, -1}, {2, 1}, append([]int{2001}, make([]int, 2001)...), {math.MaxInt}} {
		if s, n, e := Read(l); s != "" || n != 0 || e != api.ErrForm {
			t.Errorf("case %d: %v", i, e)
		}
	}
}

func TestFrames(t *testing.T) {
	if f, e := Frame([]int{5}); e != api.OK || len(f) != 13 || !bytes.Equal(f[:5], []byte{0, 0, 2, 2, 10}) {
		t.Error(f, e)
	}
	r := rand.New(rand.NewSource(2))
	for range 100 {
		var b []byte
		var ends []int
		var lists [][]int
		for range 1 + r.Intn(3) {
			l := random(r)
			f, _ := Frame(l)
			b, lists = append(b, f...), append(lists, l)
			ends = append(ends, len(b))
		}
		check := func(b []byte, whole int) {
			end := 0
			if whole > 0 {
				end = ends[whole-1]
			}
			got, n, e := Frames(b)
			if e != api.OK || n != end || !slices.EqualFunc(got, lists[:whole], slices.Equal) {
				t.Fatalf("%v, %d, %v; want %d, %d", got, n, e, whole, end)
			}
		}
		for n := range len(b) + 1 {
			whole := 0
			for whole < len(ends) && ends[whole] <= n {
				whole++
			}
			check(b[:n], whole)
			check(append(slices.Clone(b[:n]), 255, 255, 255, 255), whole)
		}
		last := 0
		if len(ends) > 1 {
			last = ends[len(ends)-2]
		}
		c := slices.Clone(b)
		c[last+3+r.Intn(len(b)-last-3)] ^= byte(1 + r.Intn(255))
		check(c, len(lists)-1)
	}
	if _, _, e := Frames(make([]byte, 200001)); e != api.ErrLimit {
		t.Error(e)
	}
	// A digest that is right does not make bytes a list.
	bad := []byte{0, 0, 2, 2, 128}
	if l, n, e := Frames(append(bad, sumOf(bad)...)); len(l) != 0 || n != 0 || e != api.OK {
		t.Error("a frame of no list is read")
	}
}
