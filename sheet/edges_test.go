package sheet

import (
	"slices"
	"strings"
	"testing"

	"forme/api"
)

func TestEdges(t *testing.T) {
	if l, e, line := Parse(strings.Repeat(" ", api.MaxSource)); l != nil || e != 0 || line != 0 {
		t.Error(e, line)
	}
	if l, e, line := Parse(strings.Repeat(" ", api.MaxSource+1)); l != nil || e != api.ErrLimit || line != 0 {
		t.Error(e, line)
	}
	rule := func(when ...api.Term) []api.Rule { return []api.Rule{{Tests: []api.Test{{}}, When: when}} }
	for i, x := range []struct {
		l    []api.Rule
		want bool
	}{
		{rule(api.Term{What: 1, N: 1000000}), true}, {rule(api.Term{What: 1, N: 1000001}), false}, {rule(api.Term{What: 1, N: -1}), false}, {rule(api.Term{What: 7}), true}, {rule(api.Term{What: 8}), false}, {rule(api.Term{What: 0}), false},
		{rule(api.Term{What: api.LangIs, N: 3}), true}, {rule(api.Term{What: api.LangIs, N: 4}), false}, {rule(slices.Repeat([]api.Term{{What: 1}}, 8)...), true}, {rule(slices.Repeat([]api.Term{{What: 1}}, 9)...), false},
		{slices.Repeat(rule(), 200), true}, {slices.Repeat(rule(), 201), false},
	} {
		if Valid(x.l) != x.want {
			t.Errorf("case %d", i)
		}
	}
	number := api.Expr{Op: api.OpNumber}
	for i, x := range []struct {
		d    []api.Decl
		want bool
	}{
		{slices.Repeat([]api.Decl{{Prop: 1, Value: number}}, 40), true}, {slices.Repeat([]api.Decl{{Prop: 1, Value: number}}, 41), false}, {[]api.Decl{{Prop: 32, Value: number}}, true}, {[]api.Decl{{Prop: 33, Value: number}}, false},
		{[]api.Decl{{Prop: 0, Value: number}}, false}, {[]api.Decl{{Prop: 1}}, false},
	} {
		l := rule()
		l[0].Decls = x.d
		if Valid(l) != x.want {
			t.Errorf("declarations %d", i)
		}
	}
}
