package table

import (
	"slices"
	"testing"

	"forme/api"
)

func TestEdges(t *testing.T) {
	const most = 1000000
	cell := api.Range{Lo: 5, Hi: 9}
	for i, x := range []struct {
		rows [][]api.Range
		want int
	}{
		{nil, 0}, {[][]api.Range{nil, {}}, 0}, {[][]api.Range{nil, {cell}}, 1}, {append(make([][]api.Range, 3999), []api.Range{cell}), 1}, {append(make([][]api.Range, 4000), []api.Range{cell}), 0},
		{[][]api.Range{slices.Repeat([]api.Range{cell}, 64)}, 64}, {[][]api.Range{slices.Repeat([]api.Range{cell}, 65)}, 0}, {[][]api.Range{{{Lo: 0, Hi: most}, {Lo: most, Hi: most}}}, 2},
		{[][]api.Range{{{Lo: -1}}}, 0}, {[][]api.Range{{{Lo: 2, Hi: 1}}}, 0}, {[][]api.Range{{{Hi: most + 1}}}, 0},
	} {
		l, e := Needs(x.rows)
		if len(l) != x.want || (e == api.ErrArg) != (x.want == 0) {
			t.Errorf("case %d: %v, %v", i, l, e)
		}
	}
	for i, x := range []struct {
		needs      []api.Range
		space, gap int
		want       api.Errno
	}{
		{slices.Repeat([]api.Range{{}}, 64), most, 100000, api.ErrFit}, {slices.Repeat([]api.Range{{}}, 64), most, 15000, 0}, {slices.Repeat([]api.Range{{}}, 65), most, 0, api.ErrArg}, {nil, 0, 0, api.ErrArg},
		{[]api.Range{cell}, most, 100000, 0}, {[]api.Range{cell}, -1, 0, api.ErrArg}, {[]api.Range{cell}, most + 1, 0, api.ErrArg}, {[]api.Range{cell}, 5, -1, api.ErrArg}, {[]api.Range{cell}, 5, 100001, api.ErrArg},
		{[]api.Range{cell}, 5, 0, 0}, {[]api.Range{cell}, 4, 0, api.ErrFit}, {[]api.Range{cell, cell}, 10, 1, api.ErrFit}, {[]api.Range{cell, cell}, 11, 1, 0}, {[]api.Range{{Lo: 2, Hi: 1}}, 4, 0, api.ErrArg},
	} {
		if l, e := Widths(x.needs, x.space, x.gap); e != x.want || (e == 0) != (len(l) == len(x.needs) && l != nil) {
			t.Errorf("widths %d: %v, %v", i, l, e)
		}
	}
	high := slices.Repeat([][]int{{most}}, 1001)
	for i, x := range []struct {
		widths  []int
		heights [][]int
		gap     int
		want    api.Errno
	}{
		{[]int{most}, high[:1000], 0, 0}, {[]int{most}, high, 0, api.ErrRange}, {[]int{1}, high[:1000], 1, api.ErrRange}, {[]int{1}, make([][]int, 4000), 0, 0}, {[]int{1}, make([][]int, 4001), 0, api.ErrArg}, {nil, nil, 0, api.ErrArg},
		{make([]int, 64), [][]int{make([]int, 64)}, 100000, 0}, {make([]int, 65), nil, 0, api.ErrArg}, {[]int{1}, [][]int{{1, 1}}, 0, api.ErrArg}, {[]int{1}, [][]int{{-1}}, 0, api.ErrArg}, {[]int{1}, [][]int{{most + 1}}, 0, api.ErrArg},
		{[]int{-1}, nil, 0, api.ErrArg}, {[]int{most + 1}, nil, 0, api.ErrArg}, {[]int{1}, nil, -1, api.ErrArg}, {[]int{1}, nil, 100001, api.ErrArg}, {[]int{1}, nil, 5, 0},
	} {
		if l, h, e := Place(x.widths, x.heights, x.gap); e != x.want || e != 0 && (l != nil || h != 0) || e == 0 && len(l) != len(x.heights) {
			t.Errorf("place %d: %d, %v", i, h, e)
		}
	}
}
