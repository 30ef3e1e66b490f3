package journal

import (
	"forme/api"
	"forme/codec"
	"forme/intake"
)

// integers returns the integers of an edit that is well-formed.
func integers(e api.Edit) []int {
	l := []int{e.Clock, e.Editor, e.Kind, e.ID, e.Parent, e.Before, e.N, e.At, int(e.Byte)}
	l = append(l, text(e.Text)...)
	l = append(l, e.Node.ID, e.Node.Parent, e.Node.Kind, e.Node.Class)
	l = append(l, text(e.Node.Text)...)
	l = append(l, e.Rule.Layer, len(e.Rule.Tests))
	for _, t := range e.Rule.Tests {
		child := 0
		if t.Child {
			child = 1
		}
		l = append(l, t.Kind, t.Class, t.ID, child)
	}
	l = append(l, len(e.Rule.When))
	for _, t := range e.Rule.When {
		l = append(l, t.What, t.N)
	}
	l = append(l, len(e.Rule.Decls))
	for _, d := range e.Rule.Decls {
		l = append(l, d.Prop)
		l = appendExpr(l, d.Value)
	}
	return l
}

func text(s string) []int {
	l, _ := codec.Text(s)
	return l
}

func appendExpr(l []int, e api.Expr) []int {
	l = append(l, e.Op, e.N, len(e.Kids))
	for _, k := range e.Kids {
		l = appendExpr(l, k)
	}
	return l
}

// reader takes edits off a list of integers.
type reader struct {
	*intake.Reader
	exprs int
}

func (r *reader) edit() api.Edit {
	e := api.Edit{Clock: r.Next(), Editor: r.Next(), Kind: r.Next(), ID: r.Next(), Parent: r.Next(), Before: r.Next(), N: r.Next(), At: r.Next()}
	e.Byte = byte(r.UpTo(255))
	e.Text = r.Text()
	e.Node = api.Node{ID: r.Next(), Parent: r.Next(), Kind: r.Next(), Class: r.Next()}
	e.Node.Text = r.Text()
	e.Rule = r.rule()
	return e
}

func (r *reader) rule() api.Rule {
	x := api.Rule{Layer: r.Next()}
	for range r.UpTo(api.MaxTests) {
		x.Tests = append(x.Tests, api.Test{Kind: r.Next(), Class: r.Next(), ID: r.Next(), Child: r.UpTo(1) == 1})
	}
	for range r.UpTo(api.MaxTerms) {
		x.When = append(x.When, api.Term{What: r.Next(), N: r.Next()})
	}
	for range r.UpTo(api.MaxDecls) {
		prop := r.Next()
		r.exprs = 0
		x.Decls = append(x.Decls, api.Decl{Prop: prop, Value: r.expr(1)})
	}
	return x
}

// expr takes an expression; the limits end it where it could not be well-formed any more.
func (r *reader) expr(depth int) api.Expr {
	r.exprs++
	r.Want(depth <= api.MaxDepth && r.exprs <= api.MaxExpr)
	e := api.Expr{Op: r.Next(), N: r.Next()}
	for range r.UpTo(2) {
		e.Kids = append(e.Kids, r.expr(depth+1))
	}
	return e
}
