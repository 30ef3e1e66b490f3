package value

import (
	"testing"

	"forme/api"
)

func TestEdges(t *testing.T) {
	leaf := func(op, n int) api.Expr { return api.Expr{Op: op, N: n} }
	var vars [8]int
	for i, x := range []struct {
		e            api.Expr
		width, scale int
		want         int
	}{
		{leaf(api.OpEm, 10000), 0, 300, 30000}, {leaf(api.OpEm, -10000), 0, 101, -10100}, {leaf(api.OpEm, 1), 0, 99, 0}, {leaf(api.OpEm, -1), 0, 99, -1}, {leaf(api.OpEm, 1), 0, 100, 1}, {leaf(api.OpEm, 7), 0, 50, 3},
		{leaf(api.OpPercent, 10000), 1000000, 50, 100000000}, {leaf(api.OpPercent, 1), 99, 50, 0}, {leaf(api.OpPercent, 1), 100, 50, 1}, {leaf(api.OpPercent, -1), 1, 50, -1}, {leaf(api.OpPercent, 33), 1000, 50, 330},
	} {
		if v, e := Eval(x.e, x.width, x.scale, vars); e != 0 || v != x.want {
			t.Errorf("case %d: %d, %v", i, v, e)
		}
	}
	number := leaf(api.OpNumber, 5)
	high, low := vars, vars
	high[7], low[0] = api.MaxCoord, -api.MaxCoord
	over, under := high, low
	over[7]++
	under[0]--
	for i, x := range []struct {
		e            api.Expr
		width, scale int
		vars         [8]int
		want         api.Errno
	}{
		{number, 0, 50, high, 0}, {number, 1000000, 300, low, 0}, {number, 0, 50, over, api.ErrArg}, {number, 0, 50, under, api.ErrArg}, {number, -1, 50, vars, api.ErrArg}, {number, 1000001, 50, vars, api.ErrArg},
		{number, 0, 49, vars, api.ErrArg}, {number, 0, 301, vars, api.ErrArg}, {api.Expr{}, 0, 50, vars, api.ErrArg}, {leaf(api.OpVar, 8), 0, 50, high, 0},
	} {
		v, e := Eval(x.e, x.width, x.scale, x.vars)
		if e != x.want || e != 0 && v != 0 {
			t.Errorf("case %d: %d, %v", i, v, e)
		}
	}
	for i, x := range []struct {
		e     api.Expr
		r     api.Range
		scale int
		vars  [8]int
		want  api.Errno
	}{
		{number, api.Range{Lo: 1, Hi: 4000}, 50, vars, 0}, {number, api.Range{Lo: 0, Hi: 3999}, 50, vars, 0}, {number, api.Range{Lo: 0, Hi: 4000}, 50, vars, api.ErrLimit}, {number, api.Range{Lo: 5, Hi: 5}, 50, vars, 0},
		{number, api.Range{Lo: 6, Hi: 5}, 50, vars, api.ErrArg}, {number, api.Range{Lo: -1, Hi: 5}, 50, vars, api.ErrArg}, {number, api.Range{Lo: 5, Hi: 4001}, 50, vars, api.ErrArg}, {number, api.Range{Lo: 0, Hi: 5}, 49, vars, api.ErrArg},
		{number, api.Range{Lo: 0, Hi: 5}, 50, over, api.ErrArg}, {api.Expr{}, api.Range{Lo: 0, Hi: 5}, 50, vars, api.ErrArg}, {api.Expr{}, api.Range{Lo: 0, Hi: 4000}, 50, vars, api.ErrArg}, {number, api.Range{Lo: -5, Hi: 5000}, 50, vars, api.ErrArg},
	} {
		l, e := Curve(x.e, x.r, x.scale, x.vars)
		if e != x.want || (e == 0) != (len(l) == 1) {
			t.Errorf("curve %d: %v, %v", i, l, e)
		}
	}
}
