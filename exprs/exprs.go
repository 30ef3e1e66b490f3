// Package exprs says which expressions are well-formed. It is no layer: it is what the packages share that get expressions.
package exprs

import "forme/api"

const (
	mostNumber = 1000000
	mostPart   = 10000
	mostVar    = 8
	mostFactor = 1000
)

// Valid reports whether an expression is well-formed.
func Valid(e api.Expr) bool {
	nodes := 0
	return valid(e, 1, &nodes)
}

// valid counts the nodes: the limits end the walk, even where Kids stand in a circle.
func valid(e api.Expr, depth int, nodes *int) bool {
	*nodes++
	if *nodes > api.MaxExpr || depth > api.MaxDepth || !validNode(e) {
		return false
	}
	for _, k := range e.Kids {
		if !valid(k, depth+1, nodes) {
			return false
		}
	}
	return true
}

func validNode(e api.Expr) bool {
	switch e.Op {
	case api.OpNumber:
		return len(e.Kids) == 0 && within(e.N, -mostNumber, mostNumber)
	case api.OpPercent, api.OpEm:
		return len(e.Kids) == 0 && within(e.N, -mostPart, mostPart)
	case api.OpVar:
		return len(e.Kids) == 0 && within(e.N, 1, mostVar)
	case api.OpTimes:
		return len(e.Kids) == 1 && within(e.N, -mostFactor, mostFactor)
	case api.OpOver:
		return len(e.Kids) == 1 && within(e.N, 1, mostFactor)
	case api.OpSum, api.OpLess, api.OpMin, api.OpMax:
		return len(e.Kids) == 2 && e.N == 0
	}
	return false
}

func within(n, low, high int) bool { return n >= low && n <= high }
