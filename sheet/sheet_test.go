package sheet

import (
	"math/rand"
	"reflect"
	"strconv"
	"strings"
	"testing"

	"forme/api"
)

func num(n int) api.Expr { return api.Expr{Op: api.OpNumber, N: n} }

func of(op, n int, kids ...api.Expr) api.Expr { return api.Expr{Op: op, N: n, Kids: kids} }

const example = "rule 2 block.3 > text#7 when width < 600 and lang 1 { above: 10 + 5% * 2; $1: max($2, 3em) / 2; }"

func exampleRule() api.Rule {
	return api.Rule{
		Layer: 2,
		Tests: []api.Test{{Kind: api.KindBlock, Class: 3}, {Kind: api.KindText, ID: 7, Child: true}},
		When:  []api.Term{{What: api.WidthBelow, N: 600}, {What: api.LangIs, N: 1}},
		Decls: []api.Decl{
			{Prop: api.PropMarginTop, Value: of(api.OpSum, 0, num(10), of(api.OpTimes, 2, of(api.OpPercent, 5)))},
			{Prop: api.PropVar, Value: of(api.OpOver, 2, of(api.OpMax, 0, of(api.OpVar, 2), of(api.OpEm, 3)))},
		},
	}
}

func randomExpr(r *rand.Rand, depth int) api.Expr {
	switch op := 1 + r.Intn(10); {
	case depth == 0 || op <= api.OpEm:
		return of(1+r.Intn(3), r.Intn(20001)-10000)
	case op == api.OpVar:
		return of(op, 1+r.Intn(8))
	case op == api.OpTimes:
		return of(op, r.Intn(2001)-1000, randomExpr(r, depth-1))
	case op == api.OpOver:
		return of(op, 1+r.Intn(1000), randomExpr(r, depth-1))
	default:
		return of(op, 0, randomExpr(r, depth-1), randomExpr(r, depth-1))
	}
}

// bracketed writes an expression with brackets around all of its parts.
func bracketed(e api.Expr) string {
	n := strconv.Itoa(e.N)
	signs := []string{"", "", "%", "em", "", "+", "-", "*", "/", "min", "max"}
	switch e.Op {
	case api.OpNumber, api.OpPercent, api.OpEm:
		return "(" + n + signs[e.Op] + ")"
	case api.OpVar:
		return "($" + n + ")"
	case api.OpTimes, api.OpOver:
		return "(" + bracketed(e.Kids[0]) + signs[e.Op] + n + ")"
	case api.OpSum, api.OpLess:
		return "(" + bracketed(e.Kids[0]) + signs[e.Op] + bracketed(e.Kids[1]) + ")"
	}
	return "(" + signs[e.Op] + "(" + bracketed(e.Kids[0]) + "," + bracketed(e.Kids[1]) + "))"
}

func randomRule(r *rand.Rand) api.Rule {
	x := api.Rule{Layer: r.Intn(101)}
	for i := range 1 + r.Intn(8) {
		x.Tests = append(x.Tests, api.Test{Kind: r.Intn(12), Class: r.Intn(101), ID: r.Intn(3) * 500000, Child: i > 0 && r.Intn(2) == 0})
	}
	for range r.Intn(9) {
		t := api.Term{What: 1 + r.Intn(7), N: r.Intn(1000001)}
		if t.What == api.LangIs {
			t.N = r.Intn(4)
		}
		x.When = append(x.When, t)
	}
	for range r.Intn(5) {
		x.Decls = append(x.Decls, api.Decl{Prop: 1 + r.Intn(32), Value: randomExpr(r, 3)})
	}
	return x
}

// written writes a rule with a separator between its tokens.
func written(x api.Rule, sep string) string {
	l := []string{"rule", strconv.Itoa(x.Layer)}
	for _, t := range x.Tests {
		if t.Child {
			l = append(l, ">")
		}
		l = append(l, kinds[t.Kind], ".", strconv.Itoa(t.Class), "#", strconv.Itoa(t.ID))
	}
	for i, t := range x.When {
		word := "and"
		if i == 0 {
			word = "when"
		}
		asks := []string{"", "width <", "width > =", "scale <", "scale >=", "lang", "box <", "box >="}[t.What]
		l = append(l, word, asks, strconv.Itoa(t.N))
	}
	l = append(l, "{")
	for _, d := range x.Decls {
		n, _ := Name(d.Prop)
		l = append(l, n, ":", bracketed(d.Value), ";")
	}
	return strings.Join(append(l, "}"), sep)
}

func same(a, b []api.Rule) bool { return len(a) == len(b) && (len(a) == 0 || reflect.DeepEqual(a, b)) }

func TestExample(t *testing.T) {
	l, e, line := Parse(example)
	if e != api.OK || line != 0 || !same(l, []api.Rule{exampleRule()}) || !Valid(l) {
		t.Errorf("%v, %v, %d", l, e, line)
	}
	l, e, _ = Parse("rule 0 * { pad : - 3 * - 2 - 1 - 2 ; }")
	want := of(api.OpLess, 0, of(api.OpLess, 0, of(api.OpTimes, -2, num(-3)), num(1)), num(2))
	if e != api.OK || !reflect.DeepEqual(l[0].Decls[0].Value, want) {
		t.Errorf("%v, %v", l, e)
	}
}

func TestRules(t *testing.T) {
	r := rand.New(rand.NewSource(1))
	for range 500 {
		a, b := randomRule(r), randomRule(r)
		sa, sb := written(a, " "), written(b, "\n \n")
		la, e1, _ := Parse(sa)
		lb, e2, _ := Parse(sb)
		both, e3, _ := Parse(sa + " " + sb)
		if e1 != 0 || e2 != 0 || e3 != 0 || !same(la, []api.Rule{a}) || !same(lb, []api.Rule{b}) || !same(both, []api.Rule{a, b}) {
			t.Fatalf("%s\n%s: %v, %v, %v", sa, sb, e1, e2, e3)
		}
		if !Valid(both) || len(both) != strings.Count(sa+sb, "rule") {
			t.Fatal("what is read are no rules")
		}
		if wide, e, _ := Parse(strings.ReplaceAll(sa, " ", " \n ")); e != 0 || !same(wide, la) {
			t.Fatal("blanks play a part")
		}
	}
}

func TestNames(t *testing.T) {
	seen := map[string]bool{}
	for prop := 1; prop <= api.Props; prop++ {
		n, e := Name(prop)
		l, e2, _ := Parse("rule 0 * { " + n + ": 1; }")
		if e != api.OK || e2 != api.OK || seen[n] || l[0].Decls[0].Prop != prop {
			t.Errorf("%d: %q, %v, %v", prop, n, e, e2)
		}
		seen[n] = true
	}
	if n, _ := Name(api.PropHide); n != "hide" {
		t.Error(n)
	}
	if n, _ := Name(32); n != "$8" {
		t.Error(n)
	}
	for _, prop := range []int{0, 33, -1} {
		if n, e := Name(prop); n != "" || e != api.ErrArg {
			t.Error(prop, n, e)
		}
	}
}

func TestErrors(t *testing.T) {
	many := strings.Repeat("rule 0 * { }\n", 200)
	for _, x := range []struct {
		s    string
		e    api.Errno
		line int
	}{
		{"", api.OK, 0},
		{"\n \n", api.OK, 0},
		{many, api.OK, 0},
		{many + "rule", api.ErrLimit, 201},
		{many + "rule 0 *\n!", api.ErrLimit, 201},
		{many + "\nfoo", api.ErrSyntax, 202},
		{strings.Repeat(" ", 20001), api.ErrLimit, 0},
		{"rule", api.ErrSyntax, 1},
		{"rule 0 * {\n\n", api.ErrSyntax, 3},
		{"rule 0 * {}\n\nx", api.ErrSyntax, 3},
		{"rule 0 * {\n\tpad: 1; }", api.ErrSyntax, 2},
		{"rule 01 * {}", api.ErrSyntax, 1},
		{"rule\n1234567890 * {}", api.ErrSyntax, 2},
		{"rule 123456789 * {}", api.ErrArg, 1},
		{"\nrule 101\n* {\n}\n\x00", api.ErrArg, 2},
		{"rule 0 *\n{ foo: 1; }", api.ErrSyntax, 2},
		{"rule 0 * { $\n9: 1; }", api.ErrSyntax, 2},
		{"rule 0 * { $0: 1; }", api.ErrSyntax, 1},
		{"rule 0 * { pad: $9; }", api.ErrArg, 1},
		{"rule 0 * { pad: 1 }", api.ErrSyntax, 1},
		{"rule 0 * { pad: 1 * (2); }", api.ErrSyntax, 1},
		{"rule 0 * { pad: 1 / -2; }", api.ErrSyntax, 1},
		{"rule 0 * { pad: 1 / 0; }", api.ErrArg, 1},
		{"rule 0 * { pad: 1 * -1001; }", api.ErrArg, 1},
		{"rule 0 * { pad: -(1); }", api.ErrSyntax, 1},
		{"rule 0 * { pad: min(1); }", api.ErrSyntax, 1},
		{"rule 0 * { pad: (1; }", api.ErrSyntax, 1},
		{"rule 0 > text {}", api.ErrSyntax, 1},
		{"rule 0 text > {}", api.ErrSyntax, 1},
		{"rule 0 foo {}", api.ErrSyntax, 1},
		{"rule 0 text when {}", api.ErrSyntax, 1},
		{"rule 0 text when width <= 3 {}", api.ErrSyntax, 1},
		{"rule 0 text when width > 3 {}", api.ErrSyntax, 1},
		{"rule 0 text when lang 4 {}", api.ErrArg, 1},
		{"rule 0 text when width < 3 scale < 4 {}", api.ErrSyntax, 1},
		{"rule 0 text.101 {}", api.ErrArg, 1},
		{"rule 0 text#1000001 {}", api.ErrArg, 1},
		{"rule 0 " + strings.Repeat("* ", 9) + "{}", api.ErrArg, 1},
		{"rule 0 * when lang 0" + strings.Repeat(" and lang 0", 8) + "{}", api.ErrArg, 1},
		{"rule 0 * {" + strings.Repeat("pad: 1;", 41) + "}", api.ErrArg, 1},
		{"rule 0 * {" + strings.Repeat("pad: 1;", 40) + "}", api.OK, 0},
		{"rule 0 * {pad: 1" + strings.Repeat(" + 1", 29) + ";}", api.OK, 0},
		{"rule 0 * {pad: 1" + strings.Repeat(" + 1", 30) + ";}", api.ErrArg, 1},
		{"rule 0 * {pad: " + strings.Repeat("(", 9000) + "1" + strings.Repeat(")", 9000) + ";}", api.OK, 0},
		{"rule 0 * {pad: " + strings.Repeat("(", 19000), api.ErrSyntax, 1},
		{"RULE 0 * {}", api.ErrSyntax, 1},
		{"rulerule", api.ErrSyntax, 1},
	} {
		l, e, line := Parse(x.s)
		if e != x.e || line != x.line || (e != api.OK && l != nil) {
			t.Errorf("%.60q: %v in line %d", x.s, e, line)
		}
		if x.e != api.OK && x.line > 0 && len(x.s) < 19000 {
			if _, e, line := Parse("\n\n" + x.s); e != x.e || line != x.line+2 {
				t.Errorf("%.60q, two lines below: %v in line %d", x.s, e, line)
			}
		}
	}
}

func TestValid(t *testing.T) {
	circle := []api.Expr{{Op: api.OpTimes}}
	circle[0].Kids = circle
	for i, change := range []func(r *api.Rule){
		func(r *api.Rule) { r.Layer = -1 },
		func(r *api.Rule) { r.Tests = nil },
		func(r *api.Rule) { r.Tests[0].Child = true },
		func(r *api.Rule) { r.When[0].What = 0 },
		func(r *api.Rule) { r.When[0].What = 8 },
		func(r *api.Rule) { r.When[0].N = -1 },
		func(r *api.Rule) { r.When[0].N = 1000001 },
		func(r *api.Rule) { r.When = make([]api.Term, 9) },
		func(r *api.Rule) { r.Decls[0].Prop = 0 },
		func(r *api.Rule) { r.Decls[0].Prop = 33 },
		func(r *api.Rule) { r.Decls[0].Value = num(1000001) },
		func(r *api.Rule) { r.Decls[0].Value = of(api.OpPercent, 10001) },
		func(r *api.Rule) { r.Decls[0].Value = of(api.OpSum, 1, num(1), num(1)) },
		func(r *api.Rule) { r.Decls[0].Value = of(api.OpSum, 0, num(1)) },
		func(r *api.Rule) { r.Decls[0].Value = of(api.OpNumber, 0, num(1)) },
		func(r *api.Rule) { r.Decls[0].Value = of(11, 0) },
		func(r *api.Rule) { r.Decls[0].Value = circle[0] },
	} {
		r := exampleRule()
		change(&r)
		if Valid([]api.Rule{r}) {
			t.Errorf("change %d leaves a rule", i)
		}
	}
	if !Valid(nil) || !Valid(make([]api.Rule, 0)) {
		t.Error("no rules are not valid")
	}
	many := make([]api.Rule, 201)
	for i := range many {
		many[i] = exampleRule()
	}
	if Valid(many) || !Valid(many[:200]) {
		t.Error("the limit of rules")
	}
}
