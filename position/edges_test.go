package position

import (
	"testing"

	"forme/api"
)

func TestEdges(t *testing.T) {
	for _, prop := range []int{api.PropWidth, api.PropMin, api.PropMax, api.PropPad, api.PropTop, api.PropLeft} {
		least := 0
		if prop == api.PropTop || prop == api.PropLeft {
			least = -100000
		}
		for v, want := range map[int]api.Errno{least - 1: api.ErrArg, least: 0, 100000: 0, 100001: api.ErrArg} {
			var s api.Style
			s[prop] = v
			w, e := Width(s, 5)
			pad, inner, e2 := Inner(s, 5)
			b, e3 := Abs(s, 0, 0, 5)
			if e != want || e2 != want || e3 != want || want != 0 && (w != 0 || pad != 0 || inner != 0 || b.W != 0 || b.X != 0 || b.Y != 0) {
				t.Error(prop, v, e, e2, e3)
			}
		}
	}
	var s api.Style
	for n, want := range map[int]api.Errno{-1: api.ErrArg, 0: 0, api.MaxCoord: 0, api.MaxCoord + 1: api.ErrArg} {
		_, e := Width(s, n)
		_, _, e2 := Inner(s, n)
		_, e3 := Abs(s, 0, 0, n)
		if e != want || e2 != want || e3 != want {
			t.Error(n, e, e2, e3)
		}
	}
	s[api.PropTop], s[api.PropLeft] = 1, -1
	for i, x := range []struct {
		x, y int
		want api.Errno
	}{{0, api.MaxCoord, api.ErrRange}, {0, api.MaxCoord - 1, 0}, {-api.MaxCoord, 0, api.ErrRange}, {1 - api.MaxCoord, 0, 0}, {0, api.MaxCoord + 1, api.ErrArg}, {-api.MaxCoord - 1, 0, api.ErrArg}} {
		if b, e := Abs(s, x.x, x.y, 5); e != x.want || e != 0 && b.W != 0 {
			t.Errorf("case %d: %v", i, e)
		}
	}
	const most = api.MaxCoord
	for i, x := range []struct {
		y, h, from, until, top, scroll int
		want                           int
		e                              api.Errno
	}{
		{5, 3, 6, 9, 0, 0, 0, api.ErrArg}, {5, 3, 5, 7, 0, 0, 0, api.ErrArg}, {5, 3, 5, 8, 0, 0, 5, 0}, {0, 0, 0, 0, 0, 0, 0, 0}, {most, 0, most, most, most, most, most, 0}, {0, most, 0, most, 0, 9, 0, 0},
		{-1, 3, 0, 9, 0, 0, 0, api.ErrArg}, {5, -1, 5, 9, 0, 0, 0, api.ErrArg}, {5, 3, -1, 9, 0, 0, 0, api.ErrArg}, {5, 3, 5, 9, -1, 0, 0, api.ErrArg}, {5, 3, 5, 9, 0, -1, 0, api.ErrArg},
		{5, 3, 5, most + 1, 0, 0, 0, api.ErrArg}, {5, 3, 5, 9, most + 1, 0, 0, api.ErrArg}, {5, 3, 5, 9, 0, most + 1, 0, api.ErrArg}, {most + 1, 0, 5, most + 1, 0, 0, 0, api.ErrArg},
	} {
		if v, e := Stick(x.y, x.h, x.from, x.until, x.top, x.scroll); v != x.want || e != x.e {
			t.Errorf("stick %d: %d, %v", i, v, e)
		}
	}
}
