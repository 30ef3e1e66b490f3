package stack

import (
	"testing"

	"forme/api"
)

func TestEdges(t *testing.T) {
	if l, end, e := Place(5, make([]api.Item, 4000)); e != 0 || len(l) != 4000 || end != 5 {
		t.Error(end, e)
	}
	if l, end, e := Place(5, make([]api.Item, 4001)); e != api.ErrLimit || l != nil || end != 0 {
		t.Error(end, e)
	}
	if h, e := Height(make([]api.Item, 4001)); e != api.ErrLimit || h != 0 {
		t.Error(h, e)
	}
	if h, e := Height([]api.Item{{Above: -5}}); e != 0 || h != 0 {
		t.Error(h, e)
	}
	for i, x := range []struct{ from, above, h, below, want int }{
		{0, 0, api.MaxCoord, 0, 0}, {0, 1, api.MaxCoord, 0, int(api.ErrRange)}, {0, 1, api.MaxCoord, -1, int(api.ErrRange)}, {0, -api.MaxCoord, 0, 0, 0}, {-1, -api.MaxCoord, 5, 0, int(api.ErrRange)},
		{0, 0, api.MaxCoord, 1, int(api.ErrRange)}, {api.MaxCoord, 0, 0, 0, 0}, {-api.MaxCoord, 0, 0, 0, 0}, {api.MaxCoord + 1, 0, 0, 0, int(api.ErrArg)}, {-api.MaxCoord - 1, 0, 0, 0, int(api.ErrArg)},
	} {
		l, end, e := Place(x.from, []api.Item{{Above: x.above, Below: x.below, H: x.h}})
		if int(e) != x.want || e != 0 && (l != nil || end != 0) {
			t.Errorf("case %d: %v", i, e)
		}
	}
	for i, x := range []struct {
		h, most, want int
		cut           bool
		e             api.Errno
	}{
		{api.MaxCoord, api.MaxCoord, api.MaxCoord, false, 0}, {api.MaxCoord, 1, 1, true, 0}, {5, 5, 5, false, 0}, {5, 4, 4, true, 0}, {5, 0, 5, false, 0},
		{-1, 5, 0, false, api.ErrArg}, {api.MaxCoord + 1, 5, 0, false, api.ErrArg}, {5, -1, 0, false, api.ErrArg}, {5, api.MaxCoord + 1, 0, false, api.ErrArg},
	} {
		if h, cut, e := Cut(x.h, x.most); h != x.want || cut != x.cut || e != x.e {
			t.Errorf("cut %d: %d, %v, %v", i, h, cut, e)
		}
	}
}
