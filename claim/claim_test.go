package claim

import (
	"reflect"
	"slices"
	"strings"
	"testing"

	"forme/api"
	"forme/sample"
)

func parse(t *testing.T, s string) api.Claim {
	t.Helper()
	c, e := Parse(s)
	if e != api.OK {
		t.Fatalf("%q: %v", s, e)
	}
	return c
}

func holds(t *testing.T, l []api.Box, s string) bool {
	t.Helper()
	ok, e := Holds(l, parse(t, s))
	if e != api.OK {
		t.Fatalf("%q: %v", s, e)
	}
	return ok
}

func random(d *sample.Dice, depth int) api.Claim {
	a := 1 + d.N(4)
	switch op := 1 + d.N(8); {
	case op == api.ClaimFits:
		return api.Claim{Op: op, A: a}
	case op == api.ClaimApart:
		return api.Claim{Op: op, A: a, B: a%4 + 1}
	case op == api.ClaimAbove:
		return api.Claim{Op: op, A: a, N: d.N(40)}
	case op == api.ClaimWords:
		return api.Claim{Op: op, A: a, N: 1 + d.N(3)}
	case op == api.ClaimOrder || depth == 0:
		return api.Claim{Op: api.ClaimOrder}
	case op == api.ClaimNot:
		return api.Claim{Op: op, Kids: []api.Claim{random(d, depth-1)}}
	default:
		c := api.Claim{Op: op}
		for range 2 + d.N(3) {
			c.Kids = append(c.Kids, random(d, depth-1))
		}
		return c
	}
}

func boxes(d *sample.Dice) []api.Box {
	var l []api.Box
	for id := 1; id <= 4; id++ {
		if d.N(5) == 0 {
			continue
		}
		b := api.Box{Node: id, X: d.N(20), Y: d.N(20), W: d.N(15), H: d.N(15), Cut: d.N(6) == 0}
		for range d.N(3) {
			b.Lines = append(b.Lines, api.Seen{Text: d.Pick("a", "a b", "~", "a b c"), X: b.X + d.N(4) - 1, Y: b.Y + d.N(4) - 1, W: d.N(12), H: d.N(9)})
		}
		l = append(l, b)
	}
	return l
}

func TestTable(t *testing.T) {
	line := func(s string, x, y, w, h int) api.Seen { return api.Seen{Text: s, X: x, Y: y, W: w, H: h} }
	l := []api.Box{
		{Node: 3, W: 10, H: 10}, {Node: 4, X: 5, Y: 9, W: 10, H: 10}, {Node: 5, X: 10, W: 5, H: 9, Cut: true}, {Node: 6, X: 7, Y: 9, W: 0, H: 5},
		{Node: 7, X: 100, Y: 50, W: 20, H: 20, Lines: []api.Seen{line("a b", 100, 50, 20, 10), line("c", 100, 60, 20, 10)}},
		{Node: 8, X: 100, Y: 70, W: 20, H: 10, Lines: []api.Seen{line("a", 99, 70, 5, 5), line("b", 100, 70, 5, 5)}},
		{Node: 9, X: 100, Y: 80, W: 20, H: 10, Lines: []api.Seen{line("a", 100, 80, 21, 10)}},
		{Node: 10, X: 100, Y: 80, W: 20, H: 10, Lines: []api.Seen{line("a", 100, 80, 20, 11)}},
		{Node: 11, X: 100, Y: 81, W: 20, H: 10, Lines: []api.Seen{line("a", 100, 80, 20, 10)}},
	}
	for s, want := range map[string]bool{
		"fits 3": true, "apart 3 4": false, "above 3 10": true, "(above 4 18 or not fits 4)": false, "fits 5": false, "fits 99": false,
		"apart 3 5": true, "apart 4 5": true, "apart 6 3": true, "apart 3 99": false, "apart 99 3": false, "above 3 9": false, "above 99 1000": false,
		"fits 7": true, "fits 8": false, "fits 9": false, "fits 10": false, "fits 11": false, "order": true, "words 7 2": true, "words 7 3": false,
		"words 8 2": false, "words 9 100": true, "words 3 5": true, "words 99 1": false, "(fits 3 and above 3 10)": true, "(fits 3 and fits 5)": false,
		"(fits 5 or fits 3)": true, "not fits 5": true, "not not fits 5": false,
	} {
		if holds(t, l, s) != want {
			t.Errorf("%q holds: %v", s, !want)
		}
	}
	slices.Reverse(l)
	if holds(t, l, "order") || !holds(t, nil, "order") {
		t.Error("order")
	}
}

func TestLogicAndTexts(t *testing.T) {
	for seed := range 1000 {
		d := sample.Roll(seed)
		a, b, l := random(d, 3), random(d, 3), boxes(d)
		not := func(c api.Claim) api.Claim { return api.Claim{Op: api.ClaimNot, Kids: []api.Claim{c}} }
		both := func(op int, x, y api.Claim) api.Claim { return api.Claim{Op: op, Kids: []api.Claim{x, y}} }
		of := func(c api.Claim) bool {
			ok, e := Holds(l, c)
			if e != api.OK {
				t.Fatal(e)
			}
			return ok
		}
		if of(a) == of(not(a)) || of(not(both(api.ClaimAnd, a, b))) != of(both(api.ClaimOr, not(a), not(b))) || of(both(api.ClaimAnd, a, b)) != (of(a) && of(b)) {
			t.Fatal("logic")
		}
		s, e := Print(a)
		if e != api.OK || !reflect.DeepEqual(parse(t, s), a) {
			t.Fatalf("%q", s)
		}
		wide := " " + strings.NewReplacer(" ", "  ", "(", " ( ", ")", " )").Replace(s) + "  "
		if !reflect.DeepEqual(parse(t, wide), a) {
			t.Fatalf("%q", wide)
		}
		if !reflect.DeepEqual(parse(t, strings.NewReplacer(" (", "(", ") ", ")").Replace(s)), a) {
			t.Fatalf("%q without blanks", s)
		}
		numbers(t, d, l)
	}
}

func numbers(t *testing.T, d *sample.Dice, l []api.Box) {
	t.Helper()
	id, n := 1+d.N(4), 1+d.N(30)
	of := func(l []api.Box, c api.Claim) bool { ok, _ := Holds(l, c); return ok }
	above, words := api.Claim{Op: api.ClaimAbove, A: id, N: n}, api.Claim{Op: api.ClaimWords, A: id, N: 1 + n%3}
	fits, apart := api.Claim{Op: api.ClaimFits, A: id}, api.Claim{Op: api.ClaimApart, A: id, B: id%4 + 1}
	more, fewer, turned := above, words, apart
	more.N++
	fewer.N = 1
	turned.A, turned.B = apart.B, apart.A
	if of(l, above) && !of(l, more) || of(l, words) && !of(l, fewer) || of(l, apart) != of(l, turned) {
		t.Fatal("numbers")
	}
	own := slices.DeleteFunc(slices.Clone(l), func(b api.Box) bool { return b.Node != id && b.Node != apart.B })
	var moved []api.Box
	for _, b := range l {
		b.X, b.Y, b.Lines = b.X+7, b.Y-30, slices.Clone(b.Lines)
		for i := range b.Lines {
			b.Lines[i].X, b.Lines[i].Y = b.Lines[i].X+7, b.Lines[i].Y-30
		}
		moved = append(moved, b)
	}
	for _, c := range []api.Claim{above, words, fits, apart, {Op: api.ClaimOrder}} {
		if c.Op != api.ClaimOrder && of(own, c) != of(l, c) {
			t.Fatal("other boxes play a part")
		}
		m := c
		if c.Op == api.ClaimAbove {
			if m.N -= 30; m.N < 0 {
				continue
			}
		}
		if of(moved, m) != of(l, c) {
			t.Fatal("moving")
		}
	}
}

func TestErrors(t *testing.T) {
	for s, want := range map[string]api.Errno{
		"": api.ErrSyntax, "  ": api.ErrSyntax, "fits": api.ErrSyntax, "fits 1 2": api.ErrSyntax, "fits 01": api.ErrSyntax, "fits -1": api.ErrSyntax, "fits3": api.ErrSyntax,
		"fits 12345678901": api.ErrSyntax, "fits 1234567890": api.ErrArg, "fits 0": api.ErrArg, "fits 1000001": api.ErrArg, "apart 2 2": api.ErrArg, "above 1 1000000001": api.ErrArg,
		"above 1 1000000000": api.OK, "words 1 0": api.ErrArg, "words 1 101": api.ErrArg, "words 1 100": api.OK, "(order)": api.ErrSyntax, "()": api.ErrSyntax, "(order and order": api.ErrSyntax,
		"(order and order or order)": api.ErrSyntax, "(order order)": api.ErrSyntax, "order)": api.ErrSyntax, "not": api.ErrSyntax, "not(order and order)": api.OK, "order\n": api.ErrSyntax,
		"Order": api.ErrSyntax, "(order" + strings.Repeat(" or order", 9) + ")": api.OK, "(order" + strings.Repeat(" or order", 10) + ")": api.ErrSyntax,
		strings.Repeat("not ", 29) + "order": api.OK, strings.Repeat("not ", 30) + "order": api.ErrArg, strings.Repeat("not ", 4900) + "order": api.ErrArg, strings.Repeat("(", 20000): api.ErrSyntax,
		strings.Repeat(" ", 20001): api.ErrLimit, "order" + strings.Repeat(" ", 19995): api.OK, "order" + strings.Repeat(" ", 19996): api.ErrLimit,
	} {
		if c, e := Parse(s); e != want || e != 0 && !reflect.DeepEqual(c, api.Claim{}) {
			t.Errorf("%.40q: %v, want %v", s, e, want)
		}
	}
	circle := []api.Claim{{Op: api.ClaimNot}}
	circle[0].Kids = circle
	order := api.Claim{Op: api.ClaimOrder}
	ten := api.Claim{Op: api.ClaimAnd, Kids: slices.Repeat([]api.Claim{order}, 10)}
	for i, c := range []api.Claim{
		{}, {Op: 9}, {Op: api.ClaimFits, A: 1, N: 1}, {Op: api.ClaimFits, A: 1, B: 1}, {Op: api.ClaimFits, A: 1, Kids: []api.Claim{order}}, {Op: api.ClaimOrder, A: 1},
		{Op: api.ClaimAbove, A: 1, N: -1}, {Op: api.ClaimAbove, A: 1, B: 1}, {Op: api.ClaimWords, A: 1, B: 1, N: 1}, {Op: api.ClaimApart, A: 1, B: 2, N: 1},
		{Op: api.ClaimAnd, Kids: []api.Claim{order}}, {Op: api.ClaimOr, Kids: slices.Repeat([]api.Claim{order}, 11)}, {Op: api.ClaimAnd, N: 1, Kids: []api.Claim{order, order}},
		{Op: api.ClaimNot}, {Op: api.ClaimNot, Kids: []api.Claim{order, order}}, {Op: api.ClaimNot, A: 1, Kids: []api.Claim{order}}, circle[0],
	} {
		_, e := Holds(nil, c)
		if s, e2 := Print(c); Valid(c) || e != api.ErrArg || e2 != api.ErrArg || s != "" {
			t.Errorf("claim %d is well-formed", i)
		}
	}
	if hundred := (api.Claim{Op: api.ClaimAnd, Kids: slices.Repeat([]api.Claim{ten}, 9)}); !Valid(hundred) || Valid(api.Claim{Op: api.ClaimNot, Kids: []api.Claim{hundred}}) {
		t.Error("the limit of parts")
	}
	top := api.MaxCoord
	for i, l := range [][]api.Box{
		{{Node: 0}}, {{Node: 1000001}}, {{Node: 1}, {Node: 1}}, {{Node: 1, X: top + 1}}, {{Node: 1, Y: -top - 1}}, {{Node: 1, W: -1}}, {{Node: 1, H: top + 1}},
		{{Node: 1, Lines: []api.Seen{{Text: "\n"}}}}, {{Node: 1, Lines: []api.Seen{{H: -1}}}}, {{Node: 1, Lines: []api.Seen{{X: top + 1}}}},
	} {
		if ok, e := Holds(l, order); ok || e != api.ErrArg {
			t.Errorf("boxes %d: %v", i, e)
		}
	}
}
