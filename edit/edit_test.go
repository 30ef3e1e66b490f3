package edit

import (
	"math"
	"reflect"
	"slices"
	"testing"

	"forme/api"
	"forme/clone"
	"forme/contain"
	"forme/sample"
	"forme/tree"
)

func example() api.Doc {
	d := sample.Doc("rule 0 * { pad: 1; } rule 1 text { above: 2; }", sample.Root(), sample.Node(2, 1, api.KindText, 3, "a"), sample.Node(3, 1, api.KindText, 0, "b"))
	d.Fonts[0].Kerns = []api.Kern{{Left: 'a', Right: 'b', By: -8}}
	d.Breaks[0].Keep = []string{"ab"}
	return d
}

func stamped(e api.Edit) api.Edit {
	e.Clock, e.Editor = 5, 2
	return e
}

func rule(s string) api.Rule { return sample.Rules(s)[0] }

// alike compares documents as the chapter says.
func alike(a, b api.Doc) bool {
	sorted := func(l []api.Node) []api.Node {
		return slices.SortedFunc(slices.Values(l), func(x, y api.Node) int { return x.ID - y.ID })
	}
	if !slices.Equal(sorted(a.Nodes), sorted(b.Nodes)) || !same(a.Rules, b.Rules) || !reflect.DeepEqual(a.Fonts, b.Fonts) || !reflect.DeepEqual(a.Breaks, b.Breaks) {
		return false
	}
	for _, n := range a.Nodes {
		x, _ := tree.Kids(a.Nodes, n.ID)
		y, _ := tree.Kids(b.Nodes, n.ID)
		if !slices.Equal(x, y) {
			return false
		}
	}
	return true
}

func same(a, b []api.Rule) bool { return len(a) == len(b) && (len(a) == 0 || reflect.DeepEqual(a, b)) }

func TestKinds(t *testing.T) {
	for i, x := range []struct {
		e    api.Edit
		want api.Errno
		did  func(d api.Doc) bool
	}{
		{api.Edit{Kind: api.EditInsert, Node: sample.Node(9, 1, api.KindRow, 0, ""), Before: 3}, 0, func(d api.Doc) bool { return d.Nodes[2].ID == 9 }},
		{api.Edit{Kind: api.EditInsert, Node: sample.Node(3, 1, api.KindRow, 0, "")}, api.ErrTwice, nil},
		{api.Edit{Kind: api.EditInsert, Node: sample.Node(9, 8, api.KindRow, 0, "")}, api.ErrNone, nil},
		{api.Edit{Kind: api.EditInsert, Node: sample.Node(9, 1, api.KindRow, 0, ""), Before: 1}, api.ErrParent, nil},
		{api.Edit{Kind: api.EditInsert, Node: sample.Node(9, 1, api.KindTr, 0, "")}, api.ErrKind, nil},
		{api.Edit{Kind: api.EditRemove, ID: 2}, 0, func(d api.Doc) bool { return len(d.Nodes) == 2 }},
		{api.Edit{Kind: api.EditRemove, ID: 9}, api.ErrNone, nil},
		{api.Edit{Kind: api.EditRemove, ID: 1}, api.ErrParent, nil},
		{api.Edit{Kind: api.EditMove, ID: 3, Parent: 1, Before: 2}, 0, func(d api.Doc) bool { return d.Nodes[1].ID == 3 }},
		{api.Edit{Kind: api.EditMove, ID: 3, Parent: 2}, api.ErrKind, nil},
		{api.Edit{Kind: api.EditText, ID: 3, Text: "xy"}, 0, func(d api.Doc) bool { return d.Nodes[2].Text == "xy" }},
		{api.Edit{Kind: api.EditText, ID: 1, Text: "xy"}, api.ErrKind, nil},
		{api.Edit{Kind: api.EditText, ID: 9, Text: "xy"}, api.ErrNone, nil},
		{api.Edit{Kind: api.EditClass, ID: 1, N: 100}, 0, func(d api.Doc) bool { return d.Nodes[0].Class == 100 }},
		{api.Edit{Kind: api.EditClass, ID: 9}, api.ErrNone, nil},
		{api.Edit{Kind: api.EditRule, At: 1, Rule: rule("rule 7 * { }")}, 0, func(d api.Doc) bool { return len(d.Rules) == 2 && d.Rules[1].Layer == 7 }},
		{api.Edit{Kind: api.EditRule, At: 2, Rule: rule("rule 7 * { }")}, 0, func(d api.Doc) bool { return len(d.Rules) == 3 && d.Rules[2].Layer == 7 }},
		{api.Edit{Kind: api.EditRule, At: 3, Rule: rule("rule 7 * { }")}, api.ErrNone, nil},
		{api.Edit{Kind: api.EditDrop, At: 0}, 0, func(d api.Doc) bool { return len(d.Rules) == 1 && d.Rules[0].Layer == 1 }},
		{api.Edit{Kind: api.EditDrop, At: 2}, api.ErrNone, nil},
		{api.Edit{Kind: api.EditAdvance, Byte: 'a', N: 8}, 0, func(d api.Doc) bool { return d.Fonts[0].Glyphs['a'-32].Advance == 8 }},
		{api.Edit{Kind: api.EditAdvance, Byte: 'a', N: 7}, api.ErrRange, nil},
		{api.Edit{Kind: api.EditAdvance, At: 1, Byte: 'a', N: 9}, api.ErrNone, nil},
	} {
		d := example()
		got, e := Apply(d, stamped(x.e))
		if e != x.want || e == 0 && !x.did(got) || e != 0 && got.Nodes != nil {
			t.Errorf("case %d: %v", i, e)
		}
		if u, e := Undo(d, stamped(x.e)); e != x.want || (e == 0) != (u != nil) {
			t.Errorf("undo %d: %v", i, e)
		}
		if !reflect.DeepEqual(d, example()) {
			t.Errorf("case %d changed the document", i)
		}
	}
	few := example()
	few.Fonts[0].Glyphs = few.Fonts[0].Glyphs[1:]
	if _, e := Apply(few, stamped(api.Edit{Kind: api.EditAdvance, Byte: ' ', N: 9})); e != api.ErrGlyph {
		t.Error(e)
	}
	full := example()
	full.Rules = slices.Repeat(full.Rules[:1], 200)
	if _, e := Apply(full, stamped(api.Edit{Kind: api.EditRule, At: 200, Rule: rule("rule 7 * { }")})); e != api.ErrLimit {
		t.Error(e)
	}
}

func TestValid(t *testing.T) {
	r := rule("rule 7 * { }")
	n := sample.Node(9, 1, api.KindTr, 0, "")
	good := []api.Edit{
		{Kind: 1, Node: n, Before: 1000000}, {Kind: 2, ID: 1000000}, {Kind: 3, ID: 1, Parent: 2, Before: 3}, {Kind: 4, ID: 1, Text: ""}, {Kind: 5, ID: 1, N: 100},
		{Kind: 6, At: 200, Rule: r}, {Kind: 7, At: 200}, {Kind: 8, At: 7, Byte: 125, N: 1000},
	}
	for i, e := range good {
		e = stamped(e)
		if !Valid(e) {
			t.Errorf("edit %d is not well-formed", i)
		}
		for j, change := range []func(e *api.Edit){
			func(e *api.Edit) { e.Clock = 0 }, func(e *api.Edit) { e.Clock = 1000000001 }, func(e *api.Edit) { e.Editor = 0 }, func(e *api.Edit) { e.Editor = 101 },
			func(e *api.Edit) { e.Kind = 0 }, func(e *api.Edit) { e.Kind = 9 }, func(e *api.Edit) { e.ID = -1 }, func(e *api.Edit) { e.ID = 1000001 },
			func(e *api.Edit) { e.Parent = -1 }, func(e *api.Edit) { e.Parent = 1000001 }, func(e *api.Edit) { e.Before = -1 }, func(e *api.Edit) { e.Before = 1000001 },
			func(e *api.Edit) { e.N = -1 }, func(e *api.Edit) { e.N = 1001 }, func(e *api.Edit) { e.At = -1 }, func(e *api.Edit) { e.At = 201 },
			func(e *api.Edit) { e.Byte = 31 }, func(e *api.Edit) { e.Byte = 126 }, func(e *api.Edit) { e.Text = "\n" }, func(e *api.Edit) { e.Node.Class = math.MaxInt },
			func(e *api.Edit) { e.Rule.Layer = 101 },
		} {
			bad := e
			if change(&bad); Valid(bad) {
				t.Errorf("edit %d with change %d is well-formed", i, j)
			}
			if _, no := Apply(example(), bad); no != api.ErrArg {
				t.Error(i, j, no)
			}
		}
		for j, f := range good {
			mixed := e
			switch j {
			case 0:
				mixed.Node = f.Node
			case 2:
				mixed.Parent = f.Parent
			case 3:
				mixed.Text = "a"
			case 4:
				mixed.N = 1
			case 5:
				mixed.Rule = f.Rule
			case 6:
				mixed.At = 1
			case 7:
				mixed.Byte = 'a'
			}
			if !reflect.DeepEqual(mixed, e) && Valid(mixed) && !(i == 3 && j == 3 || i == 7 && (j == 4 || j == 6 || j == 7) || i == 4 && j == 4 || (i == 5 || i == 6) && j == 6) {
				t.Errorf("edit %d with a field of %d is well-formed", i, j)
			}
		}
	}
	zero := stamped(api.Edit{Kind: 1, Node: sample.Node(9, 0, 1, 0, "")})
	if Valid(zero) {
		t.Error("a root can be inserted")
	}
}

func TestEditing(t *testing.T) {
	done := map[int]int{}
	for seed := range 1500 {
		dice := sample.Roll(seed)
		d := sample.Random(dice)
		e := sample.Edit(dice, d)
		after, no := Apply(d, e)
		back, no2 := Undo(d, e)
		if no != no2 {
			t.Fatal(no, no2)
		}
		if no != api.OK {
			continue
		}
		done[e.Kind]++
		if !contain.Valid(after) || len(back) == 0 {
			t.Fatalf("edit %v", e)
		}
		was, errors, _ := All(after, back)
		if !alike(was, d) || slices.ContainsFunc(errors, func(no api.Errno) bool { return no != 0 }) {
			t.Fatalf("seed %d: %v is undone by %v: %v", seed, e, back, errors)
		}
		if e.Kind <= api.EditClass && (!same(after.Rules, d.Rules) || !reflect.DeepEqual(after.Fonts, d.Fonts)) || e.Kind > api.EditClass && !slices.Equal(after.Nodes, d.Nodes) || !reflect.DeepEqual(after.Breaks, d.Breaks) {
			t.Fatalf("%v changes other parts", e)
		}
		if e.Kind == api.EditText || e.Kind == api.EditClass || e.Kind == api.EditAdvance || e.Kind == api.EditRule && e.At < len(d.Rules) {
			if again, no := Apply(after, e); no != 0 || !reflect.DeepEqual(again, after) {
				t.Fatalf("%v changes something again", e)
			}
		}
		farApart(t, dice, d)
	}
	for kind := 1; kind <= 8; kind++ {
		if done[kind] < 20 {
			t.Errorf("kind %d was done %d times", kind, done[kind])
		}
	}
}

func farApart(t *testing.T, dice *sample.Dice, d api.Doc) {
	t.Helper()
	first, second := sample.Edit(dice, d), sample.Edit(dice, d)
	if first.Kind != api.EditText || second.Kind < api.EditText || second.Kind == api.EditText && second.ID == first.ID {
		return
	}
	a, _, _ := All(d, []api.Edit{first, second})
	b, _, _ := All(d, []api.Edit{second, first})
	if !reflect.DeepEqual(a, b) {
		t.Fatalf("%v and %v", first, second)
	}
}

func TestSequences(t *testing.T) {
	for seed := range 200 {
		dice := sample.Roll(seed)
		d := sample.Random(dice)
		var l, made []api.Edit
		now := clone.Doc(d)
		for range 12 {
			e := sample.Edit(dice, now)
			l = append(l, e)
			if next, no := Apply(now, e); no == 0 {
				now, made = next, append(made, e)
			}
		}
		all, errors, no := All(d, l)
		if no != 0 || len(errors) != 12 || !reflect.DeepEqual(all, now) {
			t.Fatal(no, errors)
		}
		if few, _, _ := All(d, made); !reflect.DeepEqual(few, now) {
			t.Fatal("edits with errors play a part")
		}
		first, _, _ := All(d, l[:5])
		if rest, _, _ := All(first, l[5:]); !reflect.DeepEqual(rest, now) {
			t.Fatal("parts")
		}
	}
	if d, errors, no := All(example(), make([]api.Edit, 501)); no != api.ErrLimit || errors != nil || d.Nodes != nil {
		t.Error(no)
	}
	if _, errors, no := All(example(), make([]api.Edit, 500)); no != 0 || errors[499] != api.ErrArg {
		t.Error(no)
	}
	if _, _, no := All(api.Doc{}, nil); no != api.ErrArg {
		t.Error(no)
	}
	if _, no := Apply(api.Doc{}, stamped(api.Edit{Kind: 2, ID: 2})); no != api.ErrArg {
		t.Error(no)
	}
}

func TestOwnMemory(t *testing.T) {
	d := example()
	e := stamped(api.Edit{Kind: api.EditRule, At: 1, Rule: rule("rule 7 * { pad: 1 + 2; }")})
	got, _ := Apply(d, e)
	got.Rules[0].Decls[0].Prop, got.Rules[1].Decls[0].Value.Kids[0].N, got.Fonts[0].Glyphs[0].Advance, got.Breaks[0].Keep[0] = 9, 9, 9, "xx"
	if !reflect.DeepEqual(d, example()) || e.Rule.Decls[0].Value.Kids[0].N != 1 {
		t.Error("the result shares memory with the arguments")
	}
	example := sample.Doc("", sample.Root(), sample.Node(2, 1, 1, 0, ""), sample.Node(4, 2, 2, 0, "a"), sample.Node(3, 1, 1, 0, ""))
	u, _ := Undo(example, stamped(api.Edit{Kind: api.EditRemove, ID: 2}))
	want := []api.Edit{stamped(api.Edit{Kind: 1, Node: example.Nodes[1], Before: 3}), stamped(api.Edit{Kind: 1, Node: example.Nodes[2]})}
	if !reflect.DeepEqual(u, want) {
		t.Error(u)
	}
}
