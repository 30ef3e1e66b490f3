package position

import (
	"math/rand"
	"testing"

	"forme/api"
)

func random(r *rand.Rand) api.Style {
	var s api.Style
	for _, prop := range []int{api.PropWidth, api.PropMin, api.PropMax, api.PropPad} {
		s[prop] = r.Intn(4) * r.Intn(30)
	}
	s[api.PropTop], s[api.PropLeft] = r.Intn(41)-20, r.Intn(41)-20
	s[api.PropHide] = 99
	return s
}

func TestExamples(t *testing.T) {
	s := api.Style{api.PropMin: 30, api.PropMax: 50, api.PropPad: 4}
	for room, want := range map[int]int{80: 50, 40: 40, 10: 30} {
		if w, e := Width(s, room); w != want || e != 0 {
			t.Error(room, w, e)
		}
	}
	for w, want := range map[int]int{50: 42, 7: 0} {
		if pad, inner, e := Inner(s, w); pad != 4 || inner != want || e != 0 {
			t.Error(w, pad, inner, e)
		}
	}
	for scroll, want := range map[int]int{95: 100, 120: 125, 185: 190, 999: 190} {
		if y, e := Stick(100, 10, 90, 200, 5, scroll); y != want || e != 0 {
			t.Error(scroll, y, e)
		}
	}
	s[api.PropTop], s[api.PropLeft] = -7, 8
	if b, e := Abs(s, 1, 2, 40); e != 0 || b.X != 9 || b.Y != -5 || b.W != 40 || b.H != 0 || b.Node != 0 {
		t.Error(b, e)
	}
}

func TestWidths(t *testing.T) {
	r := rand.New(rand.NewSource(1))
	for range 2000 {
		s, room, more := random(r), r.Intn(100), r.Intn(20)
		w, _ := Width(s, room)
		wider, _ := Width(s, room+more)
		least, most := s[api.PropMin], s[api.PropMax]
		plain := s[api.PropWidth]
		if plain == 0 {
			plain = room
		}
		if w < least || most >= max(least, 1) && w > most || least == 0 && most == 0 && w != plain {
			t.Fatal(s, room, w)
		}
		if wider < w || wider > w+more || s[api.PropWidth] != 0 && wider != w {
			t.Fatal(s, room, w, wider)
		}
		pad, inner, _ := Inner(s, w)
		if pad != s[api.PropPad] || inner+2*pad != w && (inner != 0 || w >= 2*pad) {
			t.Fatal(s, w, pad, inner)
		}
		x, y := r.Intn(100), r.Intn(100)
		a, _ := Abs(s, x, y, room)
		b, _ := Abs(s, x+3, y-5, room)
		if a.W != w || a.X != x+s[api.PropLeft] || a.Y != y+s[api.PropTop] || b.X != a.X+3 || b.Y != a.Y-5 || b.W != w {
			t.Fatal(a, b)
		}
	}
}

func TestSticky(t *testing.T) {
	r := rand.New(rand.NewSource(2))
	for range 2000 {
		from, h, top, scroll := r.Intn(50), r.Intn(30), r.Intn(20), r.Intn(200)
		y := from + r.Intn(50)
		until := y + h + r.Intn(60)
		at, e := Stick(y, h, from, until, top, scroll)
		on, _ := Stick(y, h, from, until, top, scroll+7)
		if e != 0 || at < y || at+h > until || at < scroll+top && at+h != until || on < at || on > at+7 {
			t.Fatal(y, h, from, until, top, scroll, at, on)
		}
	}
}

func with(prop, v int) (s api.Style) {
	s[prop] = v
	return s
}

func TestErrors(t *testing.T) {
	for _, prop := range []int{api.PropWidth, api.PropMin, api.PropMax, api.PropPad, api.PropTop, api.PropLeft} {
		for _, v := range []int{100001, -100001} {
			s := with(prop, v)
			_, e1 := Width(s, 0)
			_, _, e2 := Inner(s, 0)
			if b, e3 := Abs(s, 0, 0, 0); e1 != api.ErrArg || e2 != api.ErrArg || e3 != api.ErrArg || b.W != 0 {
				t.Error(prop, v, e1, e2, e3)
			}
		}
		_, e := Width(with(prop, -1), 0)
		if length := prop != api.PropTop && prop != api.PropLeft; (e == api.ErrArg) != length {
			t.Error(prop, e)
		}
	}
	top := api.MaxCoord
	for _, n := range []int{-1, top + 1} {
		_, e1 := Width(api.Style{}, n)
		_, _, e2 := Inner(api.Style{}, n)
		if _, e3 := Abs(api.Style{}, 0, 0, n); e1 != api.ErrArg || e2 != api.ErrArg || e3 != api.ErrArg {
			t.Error(n)
		}
		for i := range 6 {
			a := [6]int{5, 5, 0, 10, 0, 0}
			a[i] = n
			if _, e := Stick(a[0], a[1], a[2], a[3], a[4], a[5]); e != api.ErrArg {
				t.Error(a, e)
			}
		}
	}
	if _, e := Abs(api.Style{}, top+1, 0, 0); e != api.ErrArg {
		t.Error(e)
	}
	if _, e := Abs(api.Style{}, 0, -top-1, 0); e != api.ErrArg {
		t.Error(e)
	}
	if _, e := Abs(api.Style{api.PropLeft: 1}, top, 0, 0); e != api.ErrRange {
		t.Error(e)
	}
	if _, e := Abs(api.Style{api.PropTop: -1}, 0, -top, 0); e != api.ErrRange {
		t.Error(e)
	}
	if _, e := Stick(5, 5, 6, 10, 0, 0); e != api.ErrArg {
		t.Error(e)
	}
	if _, e := Stick(5, 6, 5, 10, 0, 0); e != api.ErrArg {
		t.Error(e)
	}
	if y, e := Stick(5, 5, 5, 10, 0, 0); y != 5 || e != 0 {
		t.Error(y, e)
	}
}
