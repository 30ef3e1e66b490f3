package exprs

import (
	"testing"

	"forme/api"
)

var one = api.Expr{Op: api.OpNumber, N: 1}

// deep returns an expression of so many levels.
func deep(levels int) api.Expr {
	e := one
	for range levels - 1 {
		e = api.Expr{Op: api.OpTimes, Kids: []api.Expr{e}}
	}
	return e
}

// wide returns an expression with so many nodes, 49 pairs of which are joined on few levels.
func wide(nodes int) api.Expr {
	l := []api.Expr{}
	for len(l)*2-1 < nodes-1 {
		l = append(l, one)
	}
	for len(l) > 1 {
		l = append(l[2:], api.Expr{Op: api.OpSum, Kids: []api.Expr{l[0], l[1]}})
	}
	return l[0]
}

func count(e api.Expr) int {
	n := 1
	for _, k := range e.Kids {
		n += count(k)
	}
	return n
}

func TestLimits(t *testing.T) {
	if !Valid(deep(30)) || Valid(deep(31)) {
		t.Error("levels")
	}
	e := wide(99)
	times := api.Expr{Op: api.OpTimes, Kids: []api.Expr{e}}
	more := api.Expr{Op: api.OpOver, N: 1, Kids: []api.Expr{times}}
	if count(e) != 99 || !Valid(e) || !Valid(times) || Valid(more) {
		t.Error("nodes", count(e))
	}
	circle := api.Expr{Op: api.OpTimes, Kids: make([]api.Expr, 1)}
	circle.Kids[0] = circle
	if Valid(circle) {
		t.Error("a circle")
	}
}

func TestNodes(t *testing.T) {
	with := func(op, n int, kids int) api.Expr {
		e := api.Expr{Op: op, N: n}
		for range kids {
			e.Kids = append(e.Kids, one)
		}
		return e
	}
	for i, x := range []struct{ op, kids, low, high int }{
		{api.OpNumber, 0, -1000000, 1000000}, {api.OpPercent, 0, -10000, 10000}, {api.OpEm, 0, -10000, 10000}, {api.OpVar, 0, 1, 8}, {api.OpTimes, 1, -1000, 1000},
		{api.OpOver, 1, 1, 1000}, {api.OpSum, 2, 0, 0}, {api.OpLess, 2, 0, 0}, {api.OpMin, 2, 0, 0}, {api.OpMax, 2, 0, 0},
	} {
		for n, want := range map[int]bool{x.low - 1: false, x.low: true, x.high: true, x.high + 1: false} {
			if Valid(with(x.op, n, x.kids)) != want {
				t.Errorf("case %d: %d", i, n)
			}
		}
		if Valid(with(x.op, x.low, x.kids+1)) || x.kids > 0 && Valid(with(x.op, x.low, x.kids-1)) {
			t.Errorf("case %d: kids", i)
		}
	}
	if Valid(with(0, 0, 0)) || Valid(with(11, 0, 2)) {
		t.Error("operators")
	}
}
