package merge

import (
	"reflect"
	"slices"
	"testing"

	"forme/api"
	"forme/edit"
	"forme/sample"
)

func text(clock, editor, id int, s string) api.Edit {
	return api.Edit{Clock: clock, Editor: editor, Kind: api.EditText, ID: id, Text: s}
}

func example() api.Doc {
	return sample.Doc("rule 0 * { pad: 1; }", sample.Root(), sample.Node(2, 1, api.KindText, 0, ""), sample.Node(3, 1, api.KindBlock, 0, ""), sample.Node(4, 3, api.KindText, 0, "x"))
}

// some returns edits with different stamps, of which some are refused.
func some(dice *sample.Dice, n int) []api.Edit {
	var l []api.Edit
	for i := range n {
		e := api.Edit{Clock: 1 + i*3 + dice.N(3), Editor: 1 + dice.N(4)}
		switch dice.N(5) {
		case 0:
			e.Kind, e.ID = api.EditRemove, 2+dice.N(9)
		case 1:
			e.Kind, e.Node = api.EditInsert, sample.Node(5+dice.N(4), 1+dice.N(4), api.KindText, 0, "n")
		case 2:
			e.Kind, e.At, e.Rule = api.EditRule, dice.N(3), sample.Rules(sample.Rule(dice))[0]
		case 3:
			e.Kind, e.ID, e.Parent = api.EditMove, 2+dice.N(7), 1+dice.N(4)
		default:
			e.Kind, e.ID, e.Text = api.EditText, 2+dice.N(8), sample.Text(dice)
		}
		l = append(l, e)
	}
	return l
}

func shuffled(dice *sample.Dice, l []api.Edit) []api.Edit {
	l = slices.Clone(l)
	for i := range l {
		j := dice.N(i + 1)
		l[i], l[j] = l[j], l[i]
	}
	return l
}

func add(t *testing.T, a, b []api.Edit) []api.Edit {
	t.Helper()
	l, e := Add(a, b)
	if e != api.OK {
		t.Fatal(e)
	}
	return l
}

func doc(t *testing.T, d api.Doc, l []api.Edit) api.Doc {
	t.Helper()
	d, e := Doc(d, l)
	if e != api.OK {
		t.Fatal(e)
	}
	return d
}

func same(a, b []api.Edit) bool { return len(a) == len(b) && (len(a) == 0 || reflect.DeepEqual(a, b)) }

func TestExample(t *testing.T) {
	first, second := text(5, 1, 2, "a"), text(5, 2, 2, "b")
	if d := doc(t, example(), add(t, []api.Edit{first}, []api.Edit{second})); d.Nodes[1].Text != "b" {
		t.Error(d.Nodes)
	}
	first.Clock = 6
	if d := doc(t, example(), add(t, []api.Edit{second}, []api.Edit{first})); d.Nodes[1].Text != "a" {
		t.Error(d.Nodes)
	}
}

func TestSets(t *testing.T) {
	for seed := range 300 {
		dice := sample.Roll(seed)
		all := some(dice, 9)
		part := func() []api.Edit {
			return slices.DeleteFunc(slices.Clone(shuffled(dice, all)), func(api.Edit) bool { return dice.N(2) == 0 })
		}
		a, b, c := part(), part(), part()
		o, e := Order(a)
		again, _ := Order(shuffled(dice, a))
		if e != 0 || !same(o, again) || !slices.IsSortedFunc(o, func(x, y api.Edit) int { return 1000*(x.Clock-y.Clock) + x.Editor - y.Editor }) || len(o) != len(a) {
			t.Fatal("order", e)
		}
		ab := add(t, a, b)
		if !same(ab, add(t, b, a)) || !same(add(t, a, a), o) || !same(add(t, ab, a), ab) || !same(add(t, ab, c), add(t, a, add(t, b, c))) {
			t.Fatal("adding")
		}
		for _, x := range all {
			in := func(l []api.Edit) bool {
				return slices.ContainsFunc(l, func(y api.Edit) bool { return reflect.DeepEqual(x, y) })
			}
			if in(ab) != (in(a) || in(b)) {
				t.Fatal("an edit is missing")
			}
		}
		d := example()
		want, errors, _ := edit.All(d, add(t, all, nil))
		if !reflect.DeepEqual(doc(t, d, all), want) || !reflect.DeepEqual(doc(t, d, shuffled(dice, all)), want) {
			t.Fatal("the order plays a part")
		}
		// Two editors who have got all edits in several portions.
		if x, y := add(t, add(t, a, b), all), add(t, add(t, c, all), a); !reflect.DeepEqual(doc(t, d, x), doc(t, d, y)) {
			t.Fatal("editors")
		}
		sorted := add(t, all, nil)
		if !reflect.DeepEqual(doc(t, doc(t, d, sorted[:4]), sorted[4:]), want) {
			t.Fatal("later edits")
		}
		var made []api.Edit
		for i, x := range sorted {
			if errors[i] == 0 {
				made = append(made, x)
			}
		}
		if !reflect.DeepEqual(doc(t, d, made), want) {
			t.Fatal("refused edits")
		}
	}
}

func TestErrors(t *testing.T) {
	a := text(5, 1, 2, "a")
	good := []api.Edit{a}
	var many []api.Edit
	for i := range 501 {
		many = append(many, text(1+i, 1, 2, "a"))
	}
	for i, l := range [][]api.Edit{{a, a}, {a, text(5, 1, 3, "b")}, {{}}, many} {
		_, e1 := Order(l)
		_, e2 := Add(l, good)
		_, e3 := Add(good, l)
		if d, e4 := Doc(example(), l); Valid(l) || e1 != api.ErrArg || e2 != api.ErrArg || e3 != api.ErrArg || e4 != api.ErrArg || d.Nodes != nil {
			t.Errorf("list %d is a set", i)
		}
	}
	if !Valid(nil) || !Valid(many[:500]) {
		t.Error("a set is none")
	}
	if _, e := Doc(api.Doc{}, good); e != api.ErrArg {
		t.Error(e)
	}
	ruled := api.Edit{Clock: 1, Editor: 1, Kind: api.EditRule, Rule: sample.Rules("rule 0 * when lang 1 { pad: 1 + 2; }")[0]}
	for i, change := range []func(e *api.Edit){
		func(e *api.Edit) { e.At = 1 }, func(e *api.Edit) { e.Rule.Layer = 1 }, func(e *api.Edit) { e.Rule.Tests = []api.Test{{Kind: 1}} }, func(e *api.Edit) { e.Rule.When = nil },
		func(e *api.Edit) { e.Rule.Decls = nil }, func(e *api.Edit) { e.Rule = sample.Rules("rule 0 * when lang 1 { pad: 1 + 3; }")[0] },
		func(e *api.Edit) { e.Rule = sample.Rules("rule 0 * when lang 1 { above: 1 + 2; }")[0] }, func(e *api.Edit) { e.Kind, e.Rule = api.EditDrop, api.Rule{} },
	} {
		other := ruled
		change(&other)
		if l, e := Add([]api.Edit{ruled}, []api.Edit{other}); e != api.ErrTwice || l != nil {
			t.Errorf("change %d: %v", i, e)
		}
	}
	if _, e := Add(append(many[:500:500], a)[1:], []api.Edit{text(5, 1, 2, "b")}); e != api.ErrArg {
		t.Error(e)
	}
	if _, e := Add(many[:500], []api.Edit{text(4, 1, 2, "b")}); e != api.ErrTwice {
		t.Error(e)
	}
	if _, e := Add(many[:500], many[500:]); e != api.ErrLimit {
		t.Error(e)
	}
	if l, e := Add(many[:500], many[:300]); e != 0 || len(l) != 500 {
		t.Error(e)
	}
}

func TestOwnMemory(t *testing.T) {
	l := []api.Edit{{Clock: 1, Editor: 1, Kind: api.EditRule, Rule: sample.Rules("rule 0 * { pad: 1 + 2; }")[0]}}
	for _, out := range [][]api.Edit{add(t, l, nil), add(t, nil, l)} {
		out[0].Rule.Decls[0].Value.Kids[0].N = 9
	}
	o, _ := Order(l)
	o[0].Rule.Tests[0].Kind = 9
	if l[0].Rule.Decls[0].Value.Kids[0].N != 1 || l[0].Rule.Tests[0].Kind != 0 {
		t.Error("the result shares memory with the argument")
	}
}
