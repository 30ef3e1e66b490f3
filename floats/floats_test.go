package floats

import (
	"math/rand"
	"slices"
	"testing"

	"forme/api"
)

type asked struct{ side, y, w, h int }

func random(r *rand.Rand) []asked {
	l := make([]asked, r.Intn(9))
	for i := range l {
		l[i] = asked{1 + r.Intn(2), r.Intn(40), 1 + r.Intn(100), 1 + r.Intn(30)}
	}
	return l
}

func place(t *testing.T, l []asked) []api.Float {
	t.Helper()
	var floats []api.Float
	for _, a := range l {
		var e api.Errno
		if floats, e = Place(floats, 100, a.side, a.y, a.w, a.h); e != 0 {
			t.Fatal(e)
		}
	}
	return floats
}

func room(t *testing.T, l []api.Float, y, h int) api.Range {
	t.Helper()
	r, e := Room(l, 100, y, h)
	if e != 0 {
		t.Fatal(e)
	}
	return r
}

func beside(l []api.Float, y, h int) bool {
	return slices.ContainsFunc(l, func(f api.Float) bool { return f.H > 0 && f.Y < y+max(h, 1) && f.Y+f.H > y })
}

func TestExample(t *testing.T) {
	l := place(t, []asked{{1, 0, 40, 30}, {2, 0, 50, 20}, {1, 0, 20, 10}})
	want := []api.Float{{Side: 1, X: 0, Y: 0, W: 40, H: 30}, {Side: 2, X: 50, Y: 0, W: 50, H: 20}, {Side: 1, X: 40, Y: 20, W: 20, H: 10}}
	if !slices.Equal(l, want) {
		t.Error(l)
	}
	if r := room(t, l[:2], 0, 1); r != (api.Range{Lo: 40, Hi: 50}) {
		t.Error(r)
	}
	if r := room(t, l[:2], 20, 0); r != (api.Range{Lo: 40, Hi: 100}) {
		t.Error(r)
	}
	for side, want := range []int{30, 30, 20} {
		if n, e := Below(l, 100, side); n != want || e != 0 {
			t.Error(side, n, e)
		}
	}
	if n, e := Below(nil, 100, 0); n != 0 || e != 0 {
		t.Error(n, e)
	}
}

func TestPlaces(t *testing.T) {
	r := rand.New(rand.NewSource(1))
	for range 1000 {
		ask := random(r)
		l := place(t, ask)
		mirrored := slices.Clone(ask)
		for i, f := range l {
			mirrored[i].side = 3 - ask[i].side
			if f.X < 0 || f.X+f.W > 100 || i > 0 && f.Y < l[i-1].Y || f.Y < ask[i].y {
				t.Fatalf("float %d of %v", i, l)
			}
			for _, g := range l[:i] {
				if f.X < g.X+g.W && g.X < f.X+f.W && f.Y < g.Y+g.H && g.Y < f.Y+f.H {
					t.Fatalf("%v and %v overlap", f, g)
				}
			}
			top := ask[i].y
			for _, g := range l[:i] {
				top = max(top, g.Y)
			}
			for y := top; y < f.Y; y++ {
				if ro := room(t, l[:i], y, f.H); !beside(l[:i], y, f.H) || f.W <= ro.Hi-ro.Lo {
					t.Fatalf("float %d of %v fits at %d", i, l, y)
				}
			}
		}
		for i, f := range place(t, mirrored) {
			if f.Y != l[i].Y || f.X != 100-l[i].X-l[i].W {
				t.Fatalf("%v mirrored is %v", l[i], f)
			}
		}
	}
}

func TestStretches(t *testing.T) {
	r := rand.New(rand.NewSource(2))
	for range 1000 {
		l := place(t, random(r))
		y, h := r.Intn(60), 1+r.Intn(30)
		all := room(t, l, y, h)
		at := y + r.Intn(h)
		part := room(t, l, at, r.Intn(y+h-at+1))
		if all.Hi-all.Lo > part.Hi-part.Lo {
			t.Fatal("a part is narrower")
		}
		below, _ := Below(l, 100, 0)
		if ro := room(t, l, below, h); ro != (api.Range{Lo: 0, Hi: 100}) {
			t.Fatal("below all floats", ro)
		}
		more, _ := Place(l, 100, 1+r.Intn(2), r.Intn(40), 1+r.Intn(100), 1+r.Intn(30))
		now := room(t, more, y, h)
		if now.Hi-now.Lo > all.Hi-all.Lo || !beside(more[len(l):], y, h) && now != all {
			t.Fatal("a further float", all, now)
		}
	}
}

func TestOdd(t *testing.T) {
	if l, e := Place(nil, 100, 2, 5, 130, 10); e != 0 || l[0] != (api.Float{Side: 2, X: 0, Y: 5, W: 130, H: 10}) {
		t.Error(l, e)
	}
	wide := []api.Float{{Side: 1, X: 60, W: 50, H: 10}, {Side: 2, X: 20, W: 5, H: 10}}
	if r := room(t, wide, 0, 1); r != (api.Range{Lo: 110, Hi: 110}) {
		t.Error(r)
	}
	flat := []api.Float{{Side: 1, W: 50, Y: 3}}
	if r := room(t, flat, 0, 9); r != (api.Range{Lo: 0, Hi: 100}) {
		t.Error("a float without a height is beside something")
	}
	if l, e := Place(flat, 100, 1, 0, 100, 1); e != 0 || l[1].Y != 3 {
		t.Error(l, e)
	}
}

func TestErrors(t *testing.T) {
	good := api.Float{Side: 1}
	for i, l := range [][]api.Float{
		make([]api.Float, 1), {{Side: 3}}, {{Side: 1, X: -1}}, {{Side: 1, X: 1000001}}, {{Side: 1, W: -1}}, {{Side: 1, W: 1000001}},
		{{Side: 1, H: -1}}, {{Side: 1, H: 1000001}}, {{Side: 1, Y: -1}}, {{Side: 1, Y: api.MaxCoord + 1}}, slices.Repeat([]api.Float{good}, 201),
	} {
		_, e1 := Room(l, 100, 0, 0)
		_, e2 := Place(l, 100, 1, 0, 0, 0)
		if _, e3 := Below(l, 100, 0); Valid(l, 100) || e1 != api.ErrArg || e2 != api.ErrArg || e3 != api.ErrArg {
			t.Errorf("floats %d are valid", i)
		}
	}
	if Valid(nil, -1) || Valid(nil, 1000001) || !Valid(nil, 0) || !Valid(nil, 1000000) {
		t.Error("widths")
	}
	for _, x := range [][5]int{{100, 0, 0, 0, 0}, {100, 3, 0, 0, 0}, {100, 1, -1, 0, 0}, {100, 1, api.MaxCoord + 1, 0, 0}, {100, 1, 0, -1, 0}, {100, 1, 0, 1000001, 0}, {100, 1, 0, 0, -1}, {100, 1, 0, 0, 1000001}, {-1, 1, 0, 0, 0}} {
		if l, e := Place(nil, x[0], x[1], x[2], x[3], x[4]); e != api.ErrArg || l != nil {
			t.Error(x, e)
		}
	}
	for _, x := range [][2]int{{-1, 0}, {api.MaxCoord + 1, 0}, {0, -1}, {0, 1000001}} {
		if _, e := Room(nil, 100, x[0], x[1]); e != api.ErrArg {
			t.Error(x, e)
		}
	}
	for _, side := range []int{-1, 3} {
		if _, e := Below(nil, 100, side); e != api.ErrArg {
			t.Error(e)
		}
	}
	full := slices.Repeat([]api.Float{good}, 200)
	if _, e := Place(full, 100, 1, 0, 0, 0); e != api.ErrLimit {
		t.Error(e)
	}
	low := []api.Float{{Side: 1, W: 100, Y: api.MaxCoord, H: 1}}
	if l, e := Place(low, 100, 1, 0, 1, 1); e != api.ErrRange || l != nil {
		t.Error(e)
	}
	if _, e := Place(low, 100, 1, 0, 0, 1); e != 0 {
		t.Error(e)
	}
}
