package grid

import (
	"slices"
	"testing"

	"forme/api"
)

func TestEdges(t *testing.T) {
	ones := slices.Repeat([]int{1}, 4001)
	for i, x := range []struct {
		cols  int
		spans []int
		want  api.Errno
	}{
		{64, ones[:4000], 0}, {1, []int{64, 1}, 0}, {1, nil, 0}, {0, nil, api.ErrArg}, {65, nil, api.ErrArg}, {1, []int{0}, api.ErrArg}, {1, []int{65}, api.ErrArg}, {0, ones, api.ErrLimit},
	} {
		cells, e := Cells(x.cols, x.spans)
		widths, e2 := Widths(x.cols, x.spans, 1000000, 100000)
		boxes, end, e3 := Place(x.cols, x.spans, make([]int, len(x.spans)), 1000000, 0)
		if e != x.want || e2 != x.want || e3 != x.want || e != 0 && (cells != nil || widths != nil || boxes != nil || end != 0) {
			t.Errorf("case %d: %v, %v, %v", i, e, e2, e3)
		}
	}
	for i, x := range []struct{ space, gap int }{{-1, 0}, {1000001, 0}, {0, -1}, {0, 100001}} {
		widths, e := Widths(1, ones[:1], x.space, x.gap)
		boxes, end, e2 := Place(1, ones[:1], ones[:1], x.space, x.gap)
		if e != api.ErrArg || e2 != api.ErrArg || widths != nil || boxes != nil || end != 0 {
			t.Errorf("space %d: %v, %v", i, e, e2)
		}
	}
	high := slices.Repeat([]int{1000000}, 1001)
	for i, x := range []struct {
		heights []int
		gap     int
		want    api.Errno
	}{
		{high[:1000], 0, 0}, {high, 0, api.ErrRange}, {high[:1000], 1, api.ErrRange}, {high[:999], 1001, 0}, {high[:999], 1003, api.ErrRange}, {[]int{-1}, 0, api.ErrArg}, {[]int{1000001}, 0, api.ErrArg},
	} {
		boxes, end, e := Place(1, ones[:len(x.heights)], x.heights, 5, x.gap)
		if e != x.want || e != 0 && (boxes != nil || end != 0) {
			t.Errorf("heights %d: %d, %v", i, end, e)
		}
	}
	if _, _, e := Place(1, ones[:2], ones[:1], 5, 0); e != api.ErrArg {
		t.Error(e)
	}
}
