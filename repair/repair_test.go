package repair

import (
	"reflect"
	"slices"
	"testing"

	"forme/api"
	"forme/cells"
	"forme/claim"
	"forme/clone"
	"forme/prove"
	"forme/sample"
)

func claims(t *testing.T, l ...string) []api.Claim {
	t.Helper()
	var out []api.Claim
	for _, s := range l {
		c, e := claim.Parse(s)
		if e != api.OK {
			t.Fatal(e)
		}
		out = append(out, c)
	}
	return out
}

func example() (api.Doc, []api.Zone, []api.Knob) {
	return sample.Doc("rule 0 * { pad: 10; }", sample.Root()), []api.Zone{sample.Zone(0, 100, 100, 200, 203)}, []api.Knob{{Values: []int{4, 0}, Costs: []int{1, 7}}}
}

func TestExample(t *testing.T) {
	d, z, l := example()
	for _, x := range []struct {
		claims []string
		at     []int
		cost   int
		found  bool
	}{
		{[]string{"above 1 20"}, []int{-1}, 0, true}, {[]string{"above 1 8"}, []int{0}, 1, true}, {[]string{"above 1 7"}, []int{1}, 7, true},
		{[]string{"above 1 7", "not above 1 7"}, nil, 0, false},
	} {
		if at, cost, found, e := Find(d, z, l, claims(t, x.claims...)); e != 0 || !slices.Equal(at, x.at) || cost != x.cost || found != x.found {
			t.Error(x.claims, at, cost, found, e)
		}
	}
	if at, cost, found, e := Find(d, z, nil, claims(t, "order")); e != 0 || len(at) != 0 || cost != 0 || !found {
		t.Error(at, cost, found, e)
	}
}

func TestTurn(t *testing.T) {
	d := sample.Doc("rule 0 * { pad: 10; above: 5%; } rule 0 text { line: 2em; }", sample.Root())
	before := clone.Doc(d)
	l := []api.Knob{{Decl: 1, Values: []int{3, -10000}, Costs: []int{2, 1}}, {Rule: 1, Values: []int{7}, Costs: []int{5}}}
	got, e := Turn(d, l, []int{1, 0})
	want := sample.Doc("rule 0 * { pad: 10; above: -10000%; } rule 0 text { line: 7em; }", sample.Root())
	if e != 0 || !reflect.DeepEqual(got, want) || !reflect.DeepEqual(d, before) {
		t.Error(got.Rules, e)
	}
	if got, e := Turn(d, l, []int{-1, -1}); e != 0 || !reflect.DeepEqual(got, d) {
		t.Error(got.Rules, e)
	}
	got.Rules[0].Decls[0].Prop = 9
	if !reflect.DeepEqual(d, before) {
		t.Error("the result shares memory with the document")
	}
	for _, x := range []struct {
		at   []int
		cost int
	}{{[]int{-1, -1}, 0}, {[]int{0, -1}, 2}, {[]int{-1, 0}, 5}, {[]int{0, 0}, 7}} {
		if c, e := Cost(l, x.at); c != x.cost || e != 0 {
			t.Error(x, c, e)
		}
	}
}

func random(dice *sample.Dice) (api.Doc, []api.Knob) {
	d := sample.Doc("rule 0 * { pad: 6; } rule 0 text when width < 203 { above: 20; line: 15; } rule 1 *#2 { width: 30%; }",
		sample.Root(), sample.Node(2, 1, api.KindText, 0, "ab cd ef gh"), sample.Node(3, 1, api.KindBlock, 0, ""))
	l := []api.Knob{{Rule: 0}, {Rule: 1, Decl: 1}, {Rule: 1}}[:1+dice.N(3)]
	for i := range l {
		for range 1 + dice.N(2) {
			l[i].Values, l[i].Costs = append(l[i].Values, dice.N(20)), append(l[i].Costs, dice.N(4))
		}
	}
	return d, l
}

func TestFind(t *testing.T) {
	z := []api.Zone{sample.Zone(0, 100, 101, 200, 205)}
	for seed := range 120 {
		dice := sample.Roll(seed)
		d, l := random(dice)
		wishes := claims(t, "above 3 "+dice.Pick("30", "40", "50", "60"), dice.Pick("fits 2", "not above 2 25", "above 1 70"))
		at, cost, found, e := Find(d, z, l, wishes)
		if e != api.OK {
			t.Fatal(e)
		}
		want, least := []int(nil), 1<<60
		all(l, nil, func(turn []int) {
			c, _ := Cost(l, turn)
			x, _ := Turn(d, l, turn)
			if repairs(t, x, z, wishes) && (want == nil || c < least || c == least && slices.Compare(turn, want) < 0) {
				want, least = slices.Clone(turn), c
			}
		})
		if found != (want != nil) || !slices.Equal(at, want) || found && cost != least {
			t.Fatalf("seed %d: %v, %d, want %v, %d", seed, at, cost, want, least)
		}
		if !found {
			continue
		}
		_, one, ok, _ := Find(d, z, l, wishes[:1])
		_, few, ok2, _ := Find(d, []api.Zone{sample.Zone(0, 100, 100, 202, 204)}, l, wishes)
		more := append(slices.Clone(l), api.Knob{Rule: 2, Values: []int{90}, Costs: []int{0}})
		if _, further, ok3, _ := Find(d, z, more, wishes); one > cost || few > cost || further > cost || !ok || !ok2 || !ok3 {
			t.Fatal("fewer wishes cost more")
		}
		x, _ := Turn(d, l, at)
		if again, c, ok, _ := Find(x, z, l, wishes); !ok || c != 0 || slices.Max(append(again, -1)) != -1 {
			t.Fatal("what is repaired is repaired again", again)
		}
	}
}

// all goes through all turns.
func all(l []api.Knob, turn []int, do func(turn []int)) {
	if len(turn) == len(l) {
		do(turn)
		return
	}
	for i := -1; i < len(l[len(turn)].Values); i++ {
		all(l, append(slices.Clone(turn), i), do)
	}
}

func repairs(t *testing.T, d api.Doc, z []api.Zone, claims []api.Claim) bool {
	t.Helper()
	m, e := cells.Build(d, z)
	if e != api.OK {
		t.Fatal(e)
	}
	for _, c := range claims {
		if _, _, refuted, _ := prove.Prove(m, c); refuted {
			return false
		}
	}
	return true
}

func TestErrors(t *testing.T) {
	d, z, good := example()
	d.Rules = append(d.Rules, sample.Rules("rule 0 * { above: 5%; top: 1 + 2; }")...)
	order := claims(t, "order")
	v, c := []int{1}, []int{1}
	for i, l := range [][]api.Knob{
		{{Rule: -1, Values: v, Costs: c}}, {{Rule: 200, Values: v, Costs: c}}, {{Decl: -1, Values: v, Costs: c}}, {{Decl: 40, Values: v, Costs: c}}, {{}},
		{{Values: v}}, {{Values: v, Costs: []int{-1}}}, {{Values: v, Costs: []int{1000001}}}, {{Values: []int{1000001}, Costs: c}}, {{Values: []int{-1000001}, Costs: c}},
		{{Values: make([]int, 11), Costs: make([]int, 11)}}, {good[0], good[0]}, make([]api.Knob, 9),
	} {
		_, e1 := Cost(l, make([]int, len(l)))
		_, e2 := Turn(d, l, make([]int, len(l)))
		if _, _, _, e3 := Find(d, z, l, order); e1 != api.ErrArg || e2 != api.ErrArg || e3 != api.ErrArg {
			t.Errorf("knobs %d: %v, %v, %v", i, e1, e2, e3)
		}
	}
	for i, l := range [][]api.Knob{
		{{Rule: 2, Values: v, Costs: c}}, {{Decl: 1, Values: v, Costs: c}}, {{Rule: 1, Decl: 1, Values: v, Costs: c}}, {{Rule: 1, Values: []int{10001}, Costs: c}},
	} {
		_, e1 := Cost(l, []int{0})
		_, e2 := Turn(d, l, []int{0})
		if _, _, _, e3 := Find(d, z, l, order); e1 != 0 || e2 != api.ErrArg || e3 != api.ErrArg {
			t.Errorf("knobs %d that do not fit: %v, %v, %v", i, e1, e2, e3)
		}
	}
	for _, at := range [][]int{nil, {-2}, {2}, {0, 0}} {
		_, e1 := Cost(good, at)
		if x, e2 := Turn(d, good, at); e1 != api.ErrArg || e2 != api.ErrArg || x.Nodes != nil {
			t.Error(at, e1, e2)
		}
	}
	if _, e := Turn(api.Doc{}, nil, nil); e != api.ErrArg {
		t.Error(e)
	}
	many := make([]api.Claim, 11)
	for i := range many {
		many[i] = order[0]
	}
	for i, x := range []struct {
		d      api.Doc
		z      []api.Zone
		claims []api.Claim
	}{{api.Doc{}, z, order}, {d, make([]api.Zone, 1), order}, {d, z, nil}, {d, z, many}, {d, z, make([]api.Claim, 1)}} {
		if at, cost, found, e := Find(x.d, x.z, good, x.claims); e != api.ErrArg || at != nil || cost != 0 || found {
			t.Errorf("find %d: %v", i, e)
		}
	}
}

func TestLimits(t *testing.T) {
	d := sample.Doc("rule 0 * { pad: 1; above: 1; below: 1; }", sample.Root())
	z := []api.Zone{sample.Zone(0, 100, 100, 200, 200)}
	ten := func(decl, n int) api.Knob { return api.Knob{Decl: decl, Values: make([]int, n), Costs: make([]int, n)} }
	if _, _, found, e := Find(d, z, []api.Knob{ten(0, 9), ten(1, 9), ten(2, 9)}, claims(t, "order")); !found || e != 0 {
		t.Error(found, e)
	}
	if _, _, found, e := Find(d, z, []api.Knob{ten(0, 9), ten(1, 9), ten(2, 10)}, claims(t, "order")); found || e != api.ErrLimit {
		t.Error(found, e)
	}
	var wide []api.Zone
	for i := range 300 {
		wide = append(wide, sample.Zone(0, 50, 300, 200+2*i, 200+2*i))
	}
	if _, _, found, e := Find(d, wide, nil, claims(t, "order")); found || e != api.ErrLimit {
		t.Error(found, e)
	}
}
