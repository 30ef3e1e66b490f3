package floats

import (
	"slices"
	"testing"

	"forme/api"
)

func TestEdges(t *testing.T) {
	const most = 1000000
	top := api.Float{Side: 2, X: most, Y: api.MaxCoord, W: most, H: most}
	if !Valid([]api.Float{top}, most) || !Valid(slices.Repeat([]api.Float{top}, 200), 0) || Valid(slices.Repeat([]api.Float{top}, 201), 0) {
		t.Error("the greatest values")
	}
	for i, f := range []api.Float{{}, {Side: 3}, {Side: 1, X: -1}, {Side: 1, X: most + 1}, {Side: 1, W: -1}, {Side: 1, W: most + 1}, {Side: 1, H: -1}, {Side: 1, H: most + 1}, {Side: 1, Y: -1}, {Side: 1, Y: api.MaxCoord + 1}} {
		l := []api.Float{f}
		room, e := Room(l, 5, 0, 0)
		placed, e2 := Place(l, 5, 1, 0, 0, 0)
		below, e3 := Below(l, 5, 0)
		if Valid(l, 5) || e != api.ErrArg || e2 != api.ErrArg || e3 != api.ErrArg || room != (api.Range{}) || placed != nil || below != 0 {
			t.Errorf("case %d: %v, %v, %v", i, e, e2, e3)
		}
	}
	for i, x := range []struct {
		width, side, y, w, h int
		want                 api.Errno
	}{
		{most, 2, api.MaxCoord, most, most, 0}, {-1, 1, 0, 0, 0, api.ErrArg}, {most + 1, 1, 0, 0, 0, api.ErrArg}, {5, 0, 0, 0, 0, api.ErrArg}, {5, 3, 0, 0, 0, api.ErrArg}, {5, 1, -1, 0, 0, api.ErrArg},
		{5, 1, api.MaxCoord + 1, 0, 0, api.ErrArg}, {5, 1, 0, -1, 0, api.ErrArg}, {5, 1, 0, most + 1, 0, api.ErrArg}, {5, 1, 0, 0, -1, api.ErrArg}, {5, 1, 0, 0, most + 1, api.ErrArg},
	} {
		if l, e := Place(nil, x.width, x.side, x.y, x.w, x.h); e != x.want || (e == 0) != (len(l) == 1) {
			t.Errorf("place %d: %v", i, e)
		}
	}
	for _, side := range []int{-1, 3} {
		if n, e := Below(nil, 5, side); e != api.ErrArg || n != 0 {
			t.Error(side, e)
		}
	}
	for i, x := range []struct {
		y, h int
		want api.Errno
	}{{api.MaxCoord, most, 0}, {-1, 0, api.ErrArg}, {api.MaxCoord + 1, 0, api.ErrArg}, {0, -1, api.ErrArg}, {0, most + 1, api.ErrArg}} {
		if r, e := Room(nil, 5, x.y, x.h); e != x.want || e == 0 && r != (api.Range{Hi: 5}) {
			t.Errorf("room %d: %v, %v", i, r, e)
		}
	}
	full := []api.Float{{Side: 1, Y: api.MaxCoord - 5, W: 5, H: 6}}
	if l, e := Place(full, 5, 1, 0, 1, 1); e != api.ErrRange || l != nil {
		t.Error(e)
	}
	full[0].H = 5
	if l, e := Place(full, 5, 1, 0, 1, 1); e != 0 || l[1].Y != api.MaxCoord {
		t.Error(l, e)
	}
}
