package claim

import (
	"testing"

	"forme/api"
)

func TestEdges(t *testing.T) {
	const most = api.MaxCoord
	order := api.Claim{Op: api.ClaimOrder}
	for i, x := range []struct {
		b    api.Box
		want api.Errno
	}{
		{api.Box{Node: 1000000, X: most, Y: -most, W: most, H: most}, 0}, {api.Box{Node: 1, X: -most, Y: most}, 0}, {api.Box{}, api.ErrArg}, {api.Box{Node: 1000001}, api.ErrArg}, {api.Box{Node: 1, X: most + 1}, api.ErrArg},
		{api.Box{Node: 1, X: -most - 1}, api.ErrArg}, {api.Box{Node: 1, Y: most + 1}, api.ErrArg}, {api.Box{Node: 1, Y: -most - 1}, api.ErrArg}, {api.Box{Node: 1, W: -1}, api.ErrArg}, {api.Box{Node: 1, W: most + 1}, api.ErrArg},
		{api.Box{Node: 1, H: -1}, api.ErrArg}, {api.Box{Node: 1, H: most + 1}, api.ErrArg}, {api.Box{Node: 1, Lines: []api.Seen{{X: -most, Y: most, W: most, H: most}}}, 0}, {api.Box{Node: 1, Lines: []api.Seen{{X: most + 1}}}, api.ErrArg},
		{api.Box{Node: 1, Lines: []api.Seen{{H: -1}}}, api.ErrArg}, {api.Box{Node: 1, Lines: []api.Seen{{Text: "\n"}}}, api.ErrArg},
	} {
		if ok, e := Holds([]api.Box{x.b}, order); e != x.want || ok != (e == 0) {
			t.Errorf("case %d: %v, %v", i, ok, e)
		}
	}
	if _, e := Holds([]api.Box{{Node: 1}, {Node: 1}}, order); e != api.ErrArg {
		t.Error(e)
	}
	for i, x := range []struct {
		c    api.Claim
		want bool
	}{
		{api.Claim{Op: api.ClaimFits, A: 1000000}, true}, {api.Claim{Op: api.ClaimFits, A: 1000001}, false}, {api.Claim{Op: api.ClaimFits}, false}, {api.Claim{Op: api.ClaimAbove, A: 1, N: most}, true}, {api.Claim{Op: api.ClaimAbove, A: 1, N: most + 1}, false},
		{api.Claim{Op: api.ClaimAbove, A: 1, N: -1}, false}, {api.Claim{Op: api.ClaimWords, A: 1, N: 100}, true}, {api.Claim{Op: api.ClaimWords, A: 1, N: 101}, false}, {api.Claim{Op: api.ClaimWords, A: 1}, false},
		{api.Claim{Op: api.ClaimApart, A: 1, B: 1000000}, true}, {api.Claim{Op: api.ClaimApart, A: 1, B: 1}, false}, {api.Claim{Op: api.ClaimApart, A: 1, B: 1000001}, false}, {api.Claim{Op: 9}, false}, {api.Claim{}, false},
	} {
		if Valid(x.c) != x.want {
			t.Errorf("claim %d", i)
		}
	}
	for s, want := range map[string]api.Errno{
		"": api.ErrSyntax, "fits": api.ErrSyntax, "fits 1": 0, "fits 1000001": api.ErrArg, "fits 9999999999": api.ErrArg, "fits 10000000000": api.ErrSyntax, "fits 01": api.ErrSyntax, "fits 0": api.ErrArg, "fits -1": api.ErrSyntax,
		"(order and order": api.ErrSyntax, "order )": api.ErrSyntax, "(order and order or order)": api.ErrSyntax, "not": api.ErrSyntax, "(order)": api.ErrSyntax, "(order and)": api.ErrSyntax, "(and order)": api.ErrSyntax, "orders": api.ErrSyntax,
		" ( order or  order )": 0, "not(order or order)": 0, "fits\t1": api.ErrSyntax,
	} {
		if _, e := Parse(s); e != want {
			t.Errorf("%q: %v", s, e)
		}
	}
}
