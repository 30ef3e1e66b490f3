package margins

import (
	"slices"
	"testing"

	"forme/api"
)

func TestEdges(t *testing.T) {
	if m, e := Join(api.MaxCoord, -api.MaxCoord); m != 0 || e != 0 {
		t.Error(m, e)
	}
	for _, n := range []int{api.MaxCoord + 1, -api.MaxCoord - 1} {
		if m, e := Join(5, n); m != 0 || e != api.ErrArg {
			t.Error(m, e)
		}
	}
	if m, e := Join(make([]int, 4001)...); m != 0 || e != api.ErrLimit {
		t.Error(m, e)
	}
	if m, e := Join(slices.Repeat([]int{3}, 4000)...); m != 3 || e != 0 {
		t.Error(m, e)
	}
	if l, e := Between([]api.Item{{Above: -api.MaxCoord, Below: api.MaxCoord, H: api.MaxCoord}}); e != 0 || !slices.Equal(l, []int{-api.MaxCoord, api.MaxCoord}) {
		t.Error(l, e)
	}
	for _, x := range []api.Item{{Above: api.MaxCoord + 1}, {Below: -api.MaxCoord - 1}, {H: -1}, {H: api.MaxCoord + 1}} {
		if l, e := Between([]api.Item{x}); l != nil || e != api.ErrArg {
			t.Error(x, e)
		}
	}
	if l, e := Between(make([]api.Item, 4000)); e != 0 || len(l) != 4001 {
		t.Error(e)
	}
	if l, e := Between(make([]api.Item, 4001)); e != api.ErrLimit || l != nil {
		t.Error(e)
	}
}
