package printer

import (
	"math/rand"
	"reflect"
	"strings"
	"testing"

	"forme/api"
	"forme/sheet"
)

const example = "rule 2 block.3 > text#7 when width < 600 and lang 1 { above: 10 + 5% * 2; $1: max($2, 3em) / 2; }"

func of(op, n int, kids ...api.Expr) api.Expr { return api.Expr{Op: op, N: n, Kids: kids} }

func num(n int) api.Expr { return of(api.OpNumber, n) }

func randomExpr(r *rand.Rand, depth int) api.Expr {
	switch op := 1 + r.Intn(10); {
	case depth == 0 || op <= api.OpEm:
		return of(1+r.Intn(3), r.Intn(21)-10)
	case op == api.OpVar:
		return of(op, 1+r.Intn(8))
	case op == api.OpTimes, op == api.OpOver:
		return of(op, 1+r.Intn(9), randomExpr(r, depth-1))
	default:
		return of(op, 0, randomExpr(r, depth-1), randomExpr(r, depth-1))
	}
}

func randomRule(r *rand.Rand) api.Rule {
	x := api.Rule{Layer: r.Intn(101)}
	for i := range 1 + r.Intn(8) {
		x.Tests = append(x.Tests, api.Test{Kind: r.Intn(12), Class: r.Intn(2), ID: r.Intn(2), Child: i > 0 && r.Intn(2) == 0})
	}
	for range r.Intn(9) {
		x.When = append(x.When, api.Term{What: 1 + r.Intn(7), N: r.Intn(4)})
	}
	for range r.Intn(5) {
		x.Decls = append(x.Decls, api.Decl{Prop: 1 + r.Intn(32), Value: randomExpr(r, 4)})
	}
	return x
}

// sums counts the sums that are multiplied or divided, or the second part of a sum, and the calls of min and max.
func sums(e api.Expr) int {
	n := 0
	for i, k := range e.Kids {
		n += sums(k)
		second := i == 1 && (e.Op == api.OpSum || e.Op == api.OpLess)
		if (k.Op == api.OpSum || k.Op == api.OpLess) && (second || e.Op == api.OpTimes || e.Op == api.OpOver) {
			n++
		}
	}
	if e.Op == api.OpMin || e.Op == api.OpMax {
		n++
	}
	return n
}

func TestExamples(t *testing.T) {
	l, _, _ := sheet.Parse(example)
	if s, e := Print(l); s != example+"\n" || e != api.OK {
		t.Errorf("%q, %v", s, e)
	}
	if s, e := Expr(of(api.OpTimes, -2, of(api.OpLess, 0, num(1), of(api.OpSum, 0, num(2), num(3))))); s != "(1 - (2 + 3)) * -2" || e != api.OK {
		t.Errorf("%q, %v", s, e)
	}
	if s, _ := Expr(of(api.OpMin, 0, of(api.OpSum, 0, num(1), of(api.OpTimes, 2, num(-3))), of(api.OpOver, 2, of(api.OpOver, 3, num(4))))); s != "min(1 + -3 * 2, 4 / 3 / 2)" {
		t.Errorf("%q", s)
	}
	if s, _ := Print([]api.Rule{{Tests: []api.Test{{}}}}); s != "rule 0 * { }\n" {
		t.Errorf("%q", s)
	}
	terms := "rule 0 * when width < 1 and width >= 2 and scale < 3 and scale >= 4 and lang 0 and box < 5 and box >= 6 { }\n"
	l, _, _ = sheet.Parse(terms)
	if s, _ := Print(l); s != terms {
		t.Errorf("%q", s)
	}
}

func TestInverse(t *testing.T) {
	r := rand.New(rand.NewSource(1))
	for range 300 {
		l := []api.Rule{randomRule(r), randomRule(r), randomRule(r)}
		s, e := Print(l)
		if e != api.OK || strings.Count(s, "\n") != 3 || !strings.HasSuffix(s, "\n") {
			t.Fatal(e, s)
		}
		back, e, _ := sheet.Parse(s)
		if e != api.OK || !reflect.DeepEqual(back, l) {
			t.Fatalf("%s: %v, %v", s, back, e)
		}
		if again, _ := Print(back); again != s {
			t.Fatal("another text")
		}
		parts := ""
		for _, x := range l {
			p, _ := Print([]api.Rule{x})
			parts += p
		}
		if parts != s {
			t.Fatal("other parts")
		}
		a, b := randomExpr(r, 4), randomExpr(r, 2)
		sa, _ := Expr(a)
		sb, _ := Expr(b)
		if (sa == sb) != reflect.DeepEqual(a, b) || strings.Count(sa, "(") != sums(a) || strings.Count(sa, ")") != sums(a) {
			t.Fatalf("%q and %q", sa, sb)
		}
		if l, _, _ := sheet.Parse("rule 0 * { pad: " + sa + "; }"); !reflect.DeepEqual(l[0].Decls[0].Value, a) {
			t.Fatalf("%q is read as %v", sa, l)
		}
	}
}

func TestErrors(t *testing.T) {
	if s, e := Print([]api.Rule{{}}); s != "" || e != api.ErrArg {
		t.Error(s, e)
	}
	if s, e := Expr(api.Expr{}); s != "" || e != api.ErrArg {
		t.Error(s, e)
	}
	if s, e := Print(nil); s != "" || e != api.OK {
		t.Error(s, e)
	}
	long := api.Rule{Tests: []api.Test{{}}}
	for range 40 {
		long.Decls = append(long.Decls, api.Decl{Prop: 2, Value: num(1000000)})
	}
	l := make([]api.Rule, 40)
	for i := range l {
		l[i] = long
	}
	if s, e := Print(l); s != "" || e != api.ErrLimit {
		t.Error(e)
	}
}
