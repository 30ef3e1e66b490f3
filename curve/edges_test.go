package curve

import (
	"testing"

	"forme/api"
)

func TestEdges(t *testing.T) {
	l, e := Make(0, []int{0, 5, 0, -api.MaxCoord})
	if e != 0 || !Valid(l) {
		t.Fatal(l, e)
	}
	for n, want := range []int{0, 5, 0, -api.MaxCoord} {
		if v, e := At(l, n); v != want || e != 0 {
			t.Error(n, v, e)
		}
	}
	for _, n := range []int{-1, 4} {
		if v, e := At(l, n); v != 0 || e != api.ErrArg {
			t.Error(n, v, e)
		}
	}
	if v, e := At(nil, 0); v != 0 || e != api.ErrArg {
		t.Error(v, e)
	}
	whole, e := Make(1, make([]int, api.MaxInts))
	if e != 0 || !Valid(whole) || len(whole) != 1 || whole[0].Until != api.MaxWidth+1 {
		t.Error(whole, e)
	}
	if _, e := Make(2, make([]int, api.MaxInts)); e != api.ErrArg {
		t.Error(e)
	}
	if Valid([]api.Part{{From: 0, Until: api.MaxWidth + 1, F: api.Quot{D: 1}}}) {
		t.Error("more than 4000 numbers")
	}
	constant := func(from, until, b int) api.Part {
		return api.Part{From: from, Until: until, F: api.Quot{B: b, D: 1}}
	}
	for i, l := range [][]api.Part{
		{constant(-1, 1, 0)}, {constant(1, 1, 0)}, {constant(2, 1, 0)}, {constant(4000, 4002, 0)}, {constant(0, 2, 0), constant(3, 4, 9)}, {constant(0, 2, 0), constant(2, 2, 9)},
		{{From: 0, Until: 1}}, {constant(0, 2, 5), constant(2, 3, 5)}, {{From: 0, Until: 2, F: api.Quot{A: api.MaxCoord, B: api.MaxCoord, D: 1}}},
	} {
		if Valid(l) {
			t.Errorf("case %d is valid", i)
		}
	}
	a, b := []api.Part{constant(0, 2, 1)}, []api.Part{constant(1, 3, 1)}
	long := []api.Part{constant(0, 3, 1)}
	for i, x := range [][2][]api.Part{{a, b}, {a, long}, {a, nil}, {nil, a}} {
		s, e := Sum(x[0], x[1])
		m, e2 := Max(x[0], x[1])
		if e != api.ErrArg || e2 != api.ErrArg || s != nil || m != nil {
			t.Errorf("case %d: %v, %v", i, e, e2)
		}
	}
	if s, e := Sum([]api.Part{constant(0, 1, api.MaxCoord)}, []api.Part{constant(0, 1, 1)}); e != api.ErrRange || s != nil {
		t.Error(e)
	}
}
