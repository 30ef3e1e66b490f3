package tracks

import (
	"slices"
	"testing"

	"forme/api"
)

func TestEdges(t *testing.T) {
	for i, x := range []struct {
		t    api.Track
		want bool
	}{
		{api.Track{Base: 1000000, Grow: 1000, Max: 1000000}, true}, {api.Track{}, true}, {api.Track{Base: -1}, false}, {api.Track{Base: 1000001}, false}, {api.Track{Grow: -1}, false}, {api.Track{Grow: 1001}, false},
		{api.Track{Max: -1}, false}, {api.Track{Max: 1000001}, false}, {api.Track{Base: 5, Max: 4}, false}, {api.Track{Base: 5, Max: 5}, true},
	} {
		l := []api.Track{x.t}
		w, e := Share(l, 0, 0)
		if Valid(l) != x.want || (e == 0) != x.want || !x.want && w != nil {
			t.Errorf("case %d: %v", i, e)
		}
	}
	one := []api.Track{{Grow: 1}}
	if Valid(nil) || !Valid(slices.Repeat(one, 64)) || Valid(slices.Repeat(one, 65)) {
		t.Error("lists")
	}
	for i, x := range []struct {
		space, gap int
		want       api.Errno
	}{{1000000, 100000, 0}, {-1, 0, api.ErrArg}, {1000001, 0, api.ErrArg}, {0, -1, api.ErrArg}, {0, 100001, api.ErrArg}} {
		if w, e := Share(one, x.space, x.gap); e != x.want || (e == 0) != slices.Equal(w, []int{1000000}) {
			t.Errorf("share %d: %v, %v", i, w, e)
		}
	}
	for i, x := range []struct {
		l    []int
		gap  int
		want api.Errno
	}{
		{[]int{1000000, 0}, 100000, 0}, {nil, 0, api.ErrArg}, {make([]int, 64), 0, 0}, {make([]int, 65), 0, api.ErrArg}, {[]int{-1}, 0, api.ErrArg}, {[]int{1000001}, 0, api.ErrArg}, {[]int{1}, -1, api.ErrArg}, {[]int{1}, 100001, api.ErrArg},
	} {
		if l, e := Starts(x.l, x.gap); e != x.want || (e == 0) != (len(l) == len(x.l) && l != nil) {
			t.Errorf("starts %d: %v, %v", i, l, e)
		}
	}
	// A track that just reaches its Max is not cut.
	if w, _ := Share([]api.Track{{Grow: 1, Max: 5}, {Grow: 1}}, 10, 0); !slices.Equal(w, []int{5, 5}) {
		t.Error(w)
	}
}
