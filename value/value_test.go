package value

import (
	"math/rand"
	"slices"
	"testing"

	"forme/api"
	"forme/curve"
)

func of(op, n int, kids ...api.Expr) api.Expr { return api.Expr{Op: op, N: n, Kids: kids} }

func num(n int) api.Expr { return of(api.OpNumber, n) }

func randomExpr(r *rand.Rand, depth int) api.Expr {
	switch op := 1 + r.Intn(10); {
	case depth == 0 || op <= api.OpEm:
		return of(1+r.Intn(3), r.Intn(2001)-1000)
	case op == api.OpVar:
		return of(op, 1+r.Intn(8))
	case op == api.OpTimes:
		return of(op, r.Intn(21)-10, randomExpr(r, depth-1))
	case op == api.OpOver:
		return of(op, 1+r.Intn(9), randomExpr(r, depth-1))
	default:
		return of(op, 0, randomExpr(r, depth-1), randomExpr(r, depth-1))
	}
}

func randomVars(r *rand.Rand) [8]int {
	var v [8]int
	for i := range v {
		v[i] = r.Intn(2001) - 1000
	}
	return v
}

func has(e api.Expr, op int) bool {
	return e.Op == op || slices.ContainsFunc(e.Kids, func(k api.Expr) bool { return has(k, op) })
}

func TestTable(t *testing.T) {
	vars := [8]int{5, 31, 0, 0, 0, 0, 0, -1000000000}
	for i, x := range []struct {
		e    api.Expr
		want int
		no   api.Errno
	}{
		{of(api.OpPercent, 33), 82, 0},
		{of(api.OpPercent, -33), -83, 0},
		{of(api.OpEm, 5), 7, 0},
		{of(api.OpEm, -5), -8, 0},
		{of(api.OpOver, 2, of(api.OpLess, 0, of(api.OpPercent, 100), of(api.OpVar, 2))), 109, 0},
		{of(api.OpOver, 2, num(-7)), -4, 0},
		{of(api.OpTimes, -3, num(7)), -21, 0},
		{of(api.OpSum, 0, num(4), num(5)), 9, 0},
		{of(api.OpMin, 0, num(4), num(5)), 4, 0},
		{of(api.OpMax, 0, num(4), num(5)), 5, 0},
		{of(api.OpVar, 8), -1000000000, 0},
		{of(api.OpLess, 0, of(api.OpVar, 8), num(1)), 0, api.ErrRange},
		{of(api.OpTimes, 0, of(api.OpTimes, 2, of(api.OpVar, 8))), 0, api.ErrRange},
		{of(api.OpTimes, 1000, num(1000000)), 1000000000, 0},
		{of(api.OpTimes, 1001, num(1)), 0, api.ErrArg},
		{of(api.OpOver, 0, num(1)), 0, api.ErrArg},
		{of(api.OpVar, 9), 0, api.ErrArg},
		{of(api.OpVar, 0), 0, api.ErrArg},
		{num(-1000001), 0, api.ErrArg},
		{of(api.OpEm, 10001), 0, api.ErrArg},
		{api.Expr{}, 0, api.ErrArg},
	} {
		if v, no := Eval(x.e, 250, 150, vars); v != x.want || no != x.no {
			t.Errorf("case %d: %d, %v", i, v, no)
		}
	}
	if v, no := Eval(of(api.OpPercent, 10000), 1000000, 100, vars); v != 100000000 || no != 0 {
		t.Error(v, no)
	}
}

func TestErrors(t *testing.T) {
	e := num(1)
	for _, x := range [][2]int{{-1, 100}, {1000001, 100}, {0, 49}, {0, 301}} {
		if _, no := Eval(e, x[0], x[1], [8]int{}); no != api.ErrArg {
			t.Error(x, no)
		}
	}
	if _, no := Eval(e, 0, 100, [8]int{7: api.MaxCoord + 1}); no != api.ErrArg {
		t.Error(no)
	}
	if _, no := Uses(api.Expr{}); no != api.ErrArg {
		t.Error(no)
	}
	for i, x := range []struct {
		e      api.Expr
		widths api.Range
		scale  int
		want   api.Errno
	}{
		{e, api.Range{Lo: 0, Hi: 4000}, 100, api.ErrLimit},
		{e, api.Range{Lo: 0, Hi: 3999}, 100, api.OK},
		{e, api.Range{Lo: 1, Hi: 4000}, 100, api.OK},
		{e, api.Range{Lo: 1, Hi: 4001}, 100, api.ErrArg},
		{e, api.Range{Lo: -1, Hi: 4}, 100, api.ErrArg},
		{e, api.Range{Lo: 5, Hi: 4}, 100, api.ErrArg},
		{e, api.Range{Lo: 3, Hi: 4}, 49, api.ErrArg},
		{api.Expr{}, api.Range{Lo: 3, Hi: 4}, 100, api.ErrArg},
		{of(api.OpTimes, 1000, of(api.OpTimes, 1000, of(api.OpPercent, 1000))), api.Range{Lo: 3, Hi: 400}, 100, api.ErrRange},
	} {
		if l, no := Curve(x.e, x.widths, x.scale, [8]int{}); no != x.want || (no != 0 && l != nil) {
			t.Errorf("case %d: %v", i, no)
		}
	}
	deep := e
	for range 29 {
		deep = of(api.OpTimes, 1, deep)
	}
	if !Valid(deep) || Valid(of(api.OpTimes, 1, deep)) {
		t.Error("the limit of levels")
	}
	wide := e
	for range 6 {
		wide = of(api.OpSum, 0, wide, wide)
	}
	if Valid(wide) {
		t.Error("an expression of 127 nodes is well-formed")
	}
}

func TestNodes(t *testing.T) {
	r := rand.New(rand.NewSource(1))
	for range 2000 {
		a, b, vars := randomExpr(r, 3), randomExpr(r, 3), randomVars(r)
		width, scale := r.Intn(4001), 50+r.Intn(251)
		get := func(e api.Expr) int { v, _ := Eval(e, width, scale, vars); return v }
		va, no := Eval(a, width, scale, vars)
		vb, no2 := Eval(b, width, scale, vars)
		if no != 0 || no2 != 0 {
			continue
		}
		lesser, greater := get(of(api.OpMin, 0, a, b)), get(of(api.OpMax, 0, a, b))
		if lesser != min(va, vb) || greater != max(va, vb) || lesser+greater != va+vb {
			t.Fatal("the lesser and the greater one")
		}
		n := 1 + r.Intn(50)
		over := get(of(api.OpOver, n, a))
		if get(of(api.OpSum, 0, a, b)) != va+vb || get(of(api.OpLess, 0, a, b)) != va-vb || get(of(api.OpTimes, n, a)) != va*n ||
			get(of(api.OpOver, n, of(api.OpTimes, n, a))) != va || over*n > va || over*n <= va-n {
			t.Fatal("sums and parts")
		}
		uses, _ := Uses(a)
		other := vars
		for i := range other {
			if has := slices.Contains(uses, i+1); has != hasVar(a, i+1) {
				t.Fatalf("uses of %v: %v", a, uses)
			} else if !has {
				other[i]++
			}
		}
		if v, _ := Eval(a, width, scale, other); v != va || !slices.IsSorted(uses) {
			t.Fatal("other variables play a part")
		}
		if v, _ := Eval(a, width, 50+r.Intn(251), vars); v != va && !has(a, api.OpEm) {
			t.Fatal("the scale plays a part")
		}
		if v, _ := Eval(a, r.Intn(4001), scale, vars); v != va && !has(a, api.OpPercent) {
			t.Fatal("the width plays a part")
		}
	}
}

func hasVar(e api.Expr, n int) bool {
	return e.Op == api.OpVar && e.N == n || slices.ContainsFunc(e.Kids, func(k api.Expr) bool { return hasVar(k, n) })
}

func TestCurves(t *testing.T) {
	r := rand.New(rand.NewSource(2))
	for range 100 {
		e, vars := randomExpr(r, 3), randomVars(r)
		lo := r.Intn(3900)
		widths := api.Range{Lo: lo, Hi: lo + r.Intn(80)}
		l, no := Curve(e, widths, 120, vars)
		if no != 0 {
			continue
		}
		for w := lo; w <= widths.Hi; w++ {
			v, no := curve.At(l, w)
			if want, _ := Eval(e, w, 120, vars); v != want || no != 0 {
				t.Fatalf("%v at %d: %d, want %d", e, w, v, want)
			}
		}
	}
}
