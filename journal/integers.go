package journal

import (
	"forme/api"
	"forme/codec"
)

// integers returns the integers of an edit that is well-formed.
func integers(e api.Edit) []int {
	l := []int{e.Clock, e.Editor, e.Kind, e.ID, e.Parent, e.Before, e.N, e.At, int(e.Byte)}
	l = append(l, text(e.Text)...)
	l = append(l, e.Node.ID, e.Node.Parent, e.Node.Kind, e.Node.Class)
	l = append(l, text(e.Node.Text)...)
	l = append(l, e.Rule.Layer, len(e.Rule.Tests))
	for _, t := range e.Rule.Tests {
		child := 0
		if t.Child {
			child = 1
		}
		l = append(l, t.Kind, t.Class, t.ID, child)
	}
	l = append(l, len(e.Rule.When))
	for _, t := range e.Rule.When {
		l = append(l, t.What, t.N)
	}
	l = append(l, len(e.Rule.Decls))
	for _, d := range e.Rule.Decls {
		l = append(l, d.Prop)
		l = appendExpr(l, d.Value)
	}
	return l
}

func text(s string) []int {
	l, _ := codec.Text(s)
	return l
}

func appendExpr(l []int, e api.Expr) []int {
	l = append(l, e.Op, e.N, len(e.Kids))
	for _, k := range e.Kids {
		l = appendExpr(l, k)
	}
	return l
}

// reader takes integers off a list; it panics where there is none that can be there.
type reader struct {
	l     []int
	at    int
	exprs int
}

func (r *reader) want(ok bool) {
	if !ok {
		panic(api.ErrForm)
	}
}

func (r *reader) next() int {
	r.want(r.at < len(r.l))
	r.at++
	return r.l[r.at-1]
}

// upTo takes an integer from 0 to a greatest one.
func (r *reader) upTo(most int) int {
	n := r.next()
	r.want(n >= 0 && n <= most)
	return n
}

func (r *reader) text() string {
	s, n, no := codec.Read(r.l[r.at:])
	r.want(no == api.OK)
	r.at += n
	return s
}

func (r *reader) edit() api.Edit {
	e := api.Edit{Clock: r.next(), Editor: r.next(), Kind: r.next(), ID: r.next(), Parent: r.next(), Before: r.next(), N: r.next(), At: r.next()}
	e.Byte = byte(r.upTo(255))
	e.Text = r.text()
	e.Node = api.Node{ID: r.next(), Parent: r.next(), Kind: r.next(), Class: r.next()}
	e.Node.Text = r.text()
	e.Rule = r.rule()
	return e
}

func (r *reader) rule() api.Rule {
	x := api.Rule{Layer: r.next()}
	for range r.upTo(api.MaxTests) {
		x.Tests = append(x.Tests, api.Test{Kind: r.next(), Class: r.next(), ID: r.next(), Child: r.upTo(1) == 1})
	}
	for range r.upTo(api.MaxTerms) {
		x.When = append(x.When, api.Term{What: r.next(), N: r.next()})
	}
	for range r.upTo(api.MaxDecls) {
		prop := r.next()
		r.exprs = 0
		x.Decls = append(x.Decls, api.Decl{Prop: prop, Value: r.expr(1)})
	}
	return x
}

// expr takes an expression; the limits end it where it could not be well-formed any more.
func (r *reader) expr(depth int) api.Expr {
	r.exprs++
	r.want(depth <= api.MaxDepth && r.exprs <= api.MaxExpr)
	e := api.Expr{Op: r.next(), N: r.next()}
	for range r.upTo(2) {
		e.Kids = append(e.Kids, r.expr(depth+1))
	}
	return e
}
