package update

import (
	"reflect"
	"slices"
	"testing"

	"forme/api"
	"forme/cells"
	"forme/clone"
	"forme/edit"
	"forme/layout"
	"forme/sample"
	"forme/zone"
)

func example() api.Doc {
	return sample.Doc("rule 0 text when width < 202 { above: 5; }", sample.Root(), sample.Node(2, 1, api.KindText, 0, "ab"))
}

func stamped(e api.Edit) api.Edit {
	e.Clock, e.Editor = 1, 1
	return e
}

func ruled(at int, source string) api.Edit {
	return stamped(api.Edit{Kind: api.EditRule, At: at, Rule: sample.Rules(source)[0]})
}

func build(t *testing.T, d api.Doc, l ...api.Zone) api.Map {
	t.Helper()
	m, e := cells.Build(d, l)
	if e != api.OK {
		t.Fatal(e)
	}
	return m
}

func same(a, b api.Map) bool {
	return slices.Equal(a.Zones, b.Zones) && len(a.Cells) == len(b.Cells) && (len(a.Cells) == 0 || reflect.DeepEqual(a.Cells, b.Cells))
}

func TestExample(t *testing.T) {
	d, z := example(), sample.Zone(0, 100, 100, 200, 203)
	narrow := sample.Zone(0, 100, 100, 200, 201)
	for i, x := range []struct {
		e    api.Edit
		l    []api.Zone
		want []api.Zone
	}{
		{ruled(0, "rule 0 text when width < 202 { above: 6; }"), []api.Zone{z}, []api.Zone{narrow}},
		{ruled(0, "rule 0 text when width < 202 { above: 6; }"), []api.Zone{sample.Zone(0, 100, 100, 202, 203)}, nil},
		{ruled(0, "rule 0 text when width < 203 { above: 5; }"), []api.Zone{z}, []api.Zone{sample.Zone(0, 100, 100, 200, 202)}},
		{ruled(1, "rule 0 text when lang 1 { above: 5; }"), []api.Zone{z, sample.Zone(1, 50, 51, 200, 200)}, []api.Zone{sample.Zone(1, 50, 51, 200, 200)}},
		{stamped(api.Edit{Kind: api.EditDrop}), []api.Zone{z}, []api.Zone{narrow}},
		{stamped(api.Edit{Kind: api.EditText, ID: 2, Text: "c"}), []api.Zone{z}, []api.Zone{z}},
		{stamped(api.Edit{Kind: api.EditText, ID: 2, Text: "c"}), []api.Zone{narrow, z, sample.Zone(0, 101, 102, 200, 203)}, []api.Zone{sample.Zone(0, 100, 102, 200, 203)}},
		{stamped(api.Edit{Kind: api.EditAdvance, Byte: 'c', N: 3}), []api.Zone{z}, nil},
		{stamped(api.Edit{Kind: api.EditText, ID: 2, Text: "c"}), nil, nil},
	} {
		if l, e := Reach(d, x.e, x.l); e != 0 || !slices.Equal(l, x.want) {
			t.Errorf("case %d: %v, %v", i, l, e)
		}
		after, _ := edit.Apply(d, x.e)
		m, l, e := Update(d, build(t, d, x.l...), x.e)
		if e != 0 || !slices.Equal(l, x.want) || !same(m, build(t, after, x.l...)) {
			t.Errorf("update %d: %v, %v", i, l, e)
		}
	}
}

func TestRefused(t *testing.T) {
	d, z := example(), []api.Zone{sample.Zone(0, 100, 100, 200, 203)}
	good := build(t, d, z...)
	text := stamped(api.Edit{Kind: api.EditText, ID: 2, Text: "c"})
	bad := clone.Map(good)
	bad.Cells[0].Until--
	for i, x := range []struct {
		d    api.Doc
		m    api.Map
		e    api.Edit
		want api.Errno
	}{
		{api.Doc{}, good, text, api.ErrArg}, {d, bad, text, api.ErrArg}, {d, good, api.Edit{}, api.ErrArg},
		{d, bad, stamped(api.Edit{Kind: api.EditText, ID: 9}), api.ErrArg},
		{d, good, stamped(api.Edit{Kind: api.EditText, ID: 9}), api.ErrNone}, {d, good, stamped(api.Edit{Kind: api.EditText, ID: 1}), api.ErrKind},
		{d, good, stamped(api.Edit{Kind: api.EditRemove, ID: 1}), api.ErrParent}, {d, good, stamped(api.Edit{Kind: api.EditAdvance, At: 1, Byte: 'a'}), api.ErrNone},
	} {
		if m, l, e := Update(x.d, x.m, x.e); e != x.want || l != nil || m.Zones != nil || m.Cells != nil {
			t.Errorf("case %d: %v", i, e)
		}
		if reflect.DeepEqual(x.m, bad) {
			continue
		}
		if l, e := Reach(x.d, x.e, z); e != x.want || l != nil {
			t.Errorf("reach %d: %v", i, e)
		}
	}
	if _, e := Reach(d, stamped(api.Edit{Kind: api.EditText, ID: 9}), []api.Zone{{}}); e != api.ErrArg {
		t.Error(e)
	}
	var comb []api.Zone
	for s := range 250 {
		for w := range 5 {
			comb = append(comb, sample.Zone(0, 50+s, 50+s, 200+2*w+s%2, 200+2*w+s%2))
		}
	}
	if _, e := Reach(d, text, comb[:1001]); e != api.ErrArg {
		t.Error(e)
	}
	// The canonical form of a cross of stripes has more zones than the stripes.
	var cross []api.Zone
	for i := range 60 {
		cross = append(cross, sample.Zone(0, 50, 199, 200+2*i, 200+2*i), sample.Zone(0, 50+2*i, 50+2*i, 200, 400))
	}
	if l, e := Reach(d, text, cross); e != api.ErrLimit || l != nil {
		t.Error(e)
	}
	if _, e := Reach(d, stamped(api.Edit{Kind: api.EditText, ID: 9}), cross); e != api.ErrNone {
		t.Error(e)
	}
}

func TestRun(t *testing.T) {
	d, z := example(), sample.Zone(0, 100, 100, 200, 203)
	m := build(t, d, z)
	if got, n, e := Run(d, m, make([]api.Edit, 501)); e != api.ErrLimit || got.Nodes != nil || n.Zones != nil {
		t.Error(e)
	}
	if got, n, e := Run(d, m, make([]api.Edit, 500)); e != 0 || !reflect.DeepEqual(got, d) || !same(n, m) {
		t.Error(e)
	}
	if _, _, e := Run(api.Doc{}, m, nil); e != api.ErrArg {
		t.Error(e)
	}
	bad := clone.Map(m)
	bad.Cells[0].Scale = 7
	if _, _, e := Run(d, bad, nil); e != api.ErrArg {
		t.Error(e)
	}
	got, n, _ := Run(d, m, nil)
	got.Nodes[1].Text, n.Cells[0].Shapes[0].Node = "zz", 77
	if !reflect.DeepEqual(d, example()) || !same(m, build(t, d, z)) {
		t.Error("the results share memory with the arguments")
	}
}

func zones(dice *sample.Dice) []api.Zone {
	return []api.Zone{sample.Zone(0, 100, 100, 200, 205+dice.N(12)), sample.Zone(1, 108, 110, 208, 210), sample.Zone(0, 109, 110, 300, 301)}
}

func TestExact(t *testing.T) {
	partly := 0
	for seed := range 250 {
		dice := sample.Roll(seed)
		d := sample.Random(dice)
		l := zones(dice)
		m := build(t, d, l...)
		all, _ := zone.Count(l)
		var edits []api.Edit
		now := d
		for range 5 {
			e := sample.Edit(dice, now)
			edits = append(edits, e)
			after, no := edit.Apply(now, e)
			next, reached, no2 := Update(now, m, e)
			if no != no2 {
				t.Fatal(no, no2)
			}
			if no != api.OK {
				continue
			}
			own, no := Reach(now, e, l)
			if no != api.OK || !slices.Equal(own, reached) {
				t.Fatalf("seed %d: %v, %v", seed, own, reached)
			}
			if n, _ := zone.Count(reached); n > 0 && n < all {
				partly++
			}
			if !same(next, build(t, after, l...)) {
				t.Fatalf("seed %d: the map after %v", seed, e)
			}
			notReached(t, now, after, l, reached)
			back(t, now, after, m, next, e)
			now, m = after, next
		}
		got, n, no := Run(d, build(t, d, l...), edits)
		if no != api.OK || !reflect.DeepEqual(got, now) || !same(n, m) {
			t.Fatalf("seed %d: the run", seed)
		}
	}
	if partly < 50 {
		t.Error("too few edits reach a part of the readers", partly)
	}
}

// notReached looks whether all others get the same page before and after an edit.
func notReached(t *testing.T, d, after api.Doc, l, reached []api.Zone) {
	t.Helper()
	canon, _ := zone.Canon(l)
	for r := range readers(canon) {
		if in, _ := zone.Has(reached, r); in {
			continue
		}
		a, e := layout.Lay(d, r, nil)
		b, e2 := layout.Lay(after, r, nil)
		if e != e2 || !reflect.DeepEqual(a, b) {
			t.Fatalf("%v is not reached", r)
		}
	}
}

// back looks whether an edit that leaves nodes where they are can be undone for the map, too.
func back(t *testing.T, d, after api.Doc, m, next api.Map, e api.Edit) {
	t.Helper()
	if e.Kind < api.EditText {
		return
	}
	undo, _ := edit.Undo(d, e)
	if _, was, no := Run(after, next, undo); no != api.OK || !same(was, m) {
		t.Fatalf("%v is not undone", e)
	}
}

// TestOtherMaps looks at maps of other documents: only those who are reached get something new.
func TestOtherMaps(t *testing.T) {
	for seed := range 150 {
		dice := sample.Roll(seed)
		d, other := sample.Random(dice), sample.Random(dice)
		l := zones(dice)
		m := build(t, other, l...)
		e := sample.Edit(dice, d)
		next, reached, no := Update(d, m, e)
		if no != api.OK {
			continue
		}
		if !cells.Valid(next) || !slices.Equal(next.Zones, m.Zones) {
			t.Fatal("the map is not well-formed")
		}
		after, _ := edit.Apply(d, e)
		for r := range readers(m.Zones) {
			got, no := cells.At(next, r)
			want, no2 := cells.At(m, r)
			if in, _ := zone.Has(reached, r); in {
				want, no2 = layout.Lay(after, r, nil)
			}
			if no != no2 || len(got) != len(want) || len(got) > 0 && !reflect.DeepEqual(got, want) {
				t.Fatalf("seed %d: %v", seed, r)
			}
		}
	}
}

// TestLanguages looks at rules that ask for a language.
func TestLanguages(t *testing.T) {
	l := []api.Zone{sample.Zone(0, 100, 100, 200, 203), sample.Zone(2, 100, 101, 200, 203)}
	for seed := range 60 {
		dice := sample.Roll(seed)
		d := sample.Random(dice)
		d.Rules = append(d.Rules, sample.Rules("rule 0 * when lang 2 and width < 202 { pad: 1; }")...)
		at := len(d.Rules) - dice.N(2)
		reached, no := Reach(d, ruled(at, "rule 1 * when lang 2 { pad: 2; }"), l)
		if no != api.OK || len(reached) == 0 {
			t.Fatal(no, reached)
		}
		for _, z := range reached {
			if z.Lang != 2 {
				t.Fatal(reached)
			}
		}
	}
}
