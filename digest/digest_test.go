package digest

import (
	"math/rand"
	"slices"
	"testing"

	"forme/api"
)

func random(r *rand.Rand, n int) []uint64 {
	l := make([]uint64, n)
	for i := range l {
		l[i] = r.Uint64()
	}
	return l
}

func TestSums(t *testing.T) {
	for _, x := range []struct {
		s    string
		want uint64
	}{{"", 14695981039346656037}, {"a", 12638187200555641996}, {"foobar", 9625390261332436968}} {
		if got := Sum([]byte(x.s)); got != x.want {
			t.Errorf("%q: %d", x.s, got)
		}
	}
	if Next(97, 5) != Sum([]byte("\x00\x00\x00\x00\x00\x00\x00a5 ")) {
		t.Error("next of 97 and 5")
	}
	if Next(1<<56, -12, 0) != Sum([]byte("\x01\x00\x00\x00\x00\x00\x00\x00-12 0 ")) {
		t.Error("next of several integers")
	}
	if Next(1<<63) != Sum([]byte{128, 0, 0, 0, 0, 0, 0, 0}) {
		t.Error("next of no integers")
	}
	if Pair(1, 2) != Sum([]byte{1, 0, 0, 0, 0, 0, 0, 0, 1, 0, 0, 0, 0, 0, 0, 0, 2}) {
		t.Error("pair")
	}
}

func TestOneByte(t *testing.T) {
	r := rand.New(rand.NewSource(1))
	for range 500 {
		b := make([]byte, 1+r.Intn(30))
		r.Read(b)
		c := slices.Clone(b)
		c[r.Intn(len(c))] ^= byte(1 + r.Intn(255))
		tail := []byte("after")
		if Sum(b) == Sum(c) || Sum(append(b, tail...)) == Sum(append(c, tail...)) {
			t.Fatal("other bytes have the same digest")
		}
	}
}

func TestTrees(t *testing.T) {
	r := rand.New(rand.NewSource(2))
	for n := 1; n <= 70; n++ {
		l := random(r, n)
		root, e := Root(l)
		if e != api.OK {
			t.Fatal(e)
		}
		if n == 1 && root != Next(l[0], 0) {
			t.Error("the root of one is its leaf")
		}
		if n > 1 {
			k := 1
			for 2*k < n {
				k *= 2
			}
			a, _ := Root(l[:k])
			b, _ := Root(l[k:])
			if root != Pair(a, b) {
				t.Errorf("the root of %d is not split at %d", n, k)
			}
		}
		for i, d := range l {
			path, e := Path(l, i)
			if e != api.OK || !Leads(root, d, i, n, path) || len(path) > 14 {
				t.Fatalf("path of %d of %d", i, n)
			}
			wrong(t, root, d, i, n, path)
		}
	}
}

func wrong(t *testing.T, root, d uint64, i, n int, path []uint64) {
	t.Helper()
	longer := append(slices.Clone(path), 7)
	if Leads(root, d+1, i, n, path) || Leads(root+1, d, i, n, path) || Leads(root, d, i, n, longer) ||
		Leads(root, d, n, n, path) || Leads(root, d, -1, n, path) || Leads(root, d, i, 0, path) || Leads(root, d, i, 10001, path) {
		t.Fatalf("a wrong path of %d of %d leads to the root", i, n)
	}
	if len(path) > 0 {
		other := slices.Clone(path)
		other[0]++
		if Leads(root, d, i, n, path[1:]) || Leads(root, d, i, n, other) {
			t.Fatalf("a changed path of %d of %d leads to the root", i, n)
		}
	}
}

func TestExampleAndLimits(t *testing.T) {
	two, _ := Root([]uint64{4, 5})
	if p, e := Path([]uint64{4, 5, 6}, 2); e != api.OK || !slices.Equal(p, []uint64{two}) {
		t.Errorf("%v, %v", p, e)
	}
	if _, e := Root(nil); e != api.ErrArg {
		t.Error(e)
	}
	if _, e := Root(make([]uint64, 10001)); e != api.ErrLimit {
		t.Error(e)
	}
	if _, e := Path(make([]uint64, 10001), -1); e != api.ErrLimit {
		t.Error(e)
	}
	for _, i := range []int{-1, 2} {
		if p, e := Path([]uint64{1, 2}, i); e != api.ErrArg || p != nil {
			t.Error(e)
		}
	}
	l := random(rand.New(rand.NewSource(3)), 10000)
	root, _ := Root(l)
	if p, e := Path(l, 0); e != api.OK || len(p) != 14 || !Leads(root, l[0], 0, 10000, p) {
		t.Error("the longest path")
	}
	before := slices.Clone(l)
	Path(l, 77)
	if !slices.Equal(l, before) {
		t.Error("the list was changed")
	}
}
