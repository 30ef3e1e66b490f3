package edit

import (
	"slices"
	"testing"

	"forme/api"
	"forme/sample"
)

func TestEdges(t *testing.T) {
	const most = 1000000
	for i, x := range []struct {
		e    api.Edit
		want bool
	}{
		{api.Edit{Clock: 1, Editor: 1, Kind: api.EditRemove, ID: 1}, true}, {api.Edit{Clock: 1000000000, Editor: 100, Kind: api.EditRemove, ID: most}, true}, {api.Edit{Clock: 0, Editor: 1, Kind: api.EditRemove, ID: 1}, false},
		{api.Edit{Clock: 1000000001, Editor: 1, Kind: api.EditRemove, ID: 1}, false}, {api.Edit{Clock: 1, Editor: 0, Kind: api.EditRemove, ID: 1}, false}, {api.Edit{Clock: 1, Editor: 101, Kind: api.EditRemove, ID: 1}, false},
		{stamped(api.Edit{Kind: 0, ID: 1}), false}, {stamped(api.Edit{Kind: 9, ID: 1}), false}, {stamped(api.Edit{Kind: api.EditRemove}), false}, {stamped(api.Edit{Kind: api.EditRemove, ID: most + 1}), false},
		{stamped(api.Edit{Kind: api.EditMove, ID: most, Parent: most, Before: most}), true}, {stamped(api.Edit{Kind: api.EditMove, ID: 1, Parent: 1, Before: most + 1}), false}, {stamped(api.Edit{Kind: api.EditMove, ID: 1, Parent: 0}), false},
		{stamped(api.Edit{Kind: api.EditMove, ID: 1, Parent: most + 1}), false}, {stamped(api.Edit{Kind: api.EditMove, ID: 0, Parent: 1}), false}, {stamped(api.Edit{Kind: api.EditMove, ID: 1, Parent: 1, Before: -1}), false},
		{stamped(api.Edit{Kind: api.EditInsert, Node: sample.Node(1, 1, 1, 0, ""), Before: most}), true}, {stamped(api.Edit{Kind: api.EditInsert, Node: sample.Node(1, 1, 1, 0, ""), Before: most + 1}), false},
		{stamped(api.Edit{Kind: api.EditInsert, Node: sample.Node(most, most, 11, 100, "a")}), true}, {stamped(api.Edit{Kind: api.EditInsert, Node: sample.Node(2, 1, 2, 0, "\n")}), false},
		{stamped(api.Edit{Kind: api.EditClass, ID: 1, N: 100}), true}, {stamped(api.Edit{Kind: api.EditClass, ID: 1, N: 101}), false}, {stamped(api.Edit{Kind: api.EditClass, ID: 1, N: -1}), false},
		{stamped(api.Edit{Kind: api.EditDrop, At: 200}), true}, {stamped(api.Edit{Kind: api.EditDrop, At: 201}), false}, {stamped(api.Edit{Kind: api.EditDrop, At: -1}), false},
		{stamped(api.Edit{Kind: api.EditAdvance, At: 7, Byte: 125, N: 1000}), true}, {stamped(api.Edit{Kind: api.EditAdvance, At: 0, Byte: 32}), true}, {stamped(api.Edit{Kind: api.EditAdvance, At: 8, Byte: 32}), false},
		{stamped(api.Edit{Kind: api.EditAdvance, At: -1, Byte: 32}), false}, {stamped(api.Edit{Kind: api.EditAdvance, Byte: 31}), false}, {stamped(api.Edit{Kind: api.EditAdvance, Byte: 126}), false},
		{stamped(api.Edit{Kind: api.EditAdvance, Byte: 32, N: 1001}), false}, {stamped(api.Edit{Kind: api.EditAdvance, Byte: 32, N: -1}), false},
		{stamped(api.Edit{Kind: api.EditText, ID: 1, Text: "\n"}), false}, {stamped(api.Edit{Kind: api.EditRule, At: 200, Rule: rule("rule 0 * { }")}), true}, {stamped(api.Edit{Kind: api.EditRule, At: 201, Rule: rule("rule 0 * { }")}), false}, {stamped(api.Edit{Kind: api.EditRule}), false},
	} {
		if Valid(x.e) != x.want {
			t.Errorf("case %d", i)
		}
	}
}

// TestFull edits a document with as many rules, and fonts, as there may be.
func TestFull(t *testing.T) {
	d := example()
	d.Rules = slices.Repeat(d.Rules[:1], 200)
	d.Fonts = slices.Repeat([]api.Font{{Glyphs: []api.Glyph{{Byte: 32}, {Byte: 125}}}}, 8)
	r := rule("rule 9 * { }")
	for i, x := range []struct {
		e    api.Edit
		want api.Errno
		did  func(d api.Doc) bool
	}{
		{api.Edit{Kind: api.EditRule, At: 200, Rule: r}, api.ErrLimit, nil}, {api.Edit{Kind: api.EditRule, At: 199, Rule: r}, 0, func(d api.Doc) bool { return d.Rules[199].Layer == 9 && len(d.Rules) == 200 }},
		{api.Edit{Kind: api.EditDrop, At: 199}, 0, func(d api.Doc) bool { return len(d.Rules) == 199 }}, {api.Edit{Kind: api.EditDrop, At: 200}, api.ErrNone, nil},
		{api.Edit{Kind: api.EditAdvance, At: 7, Byte: 32, N: 1000}, 0, func(d api.Doc) bool { return d.Fonts[7].Glyphs[0].Advance == 1000 }}, {api.Edit{Kind: api.EditAdvance, At: 7, Byte: 125, N: 7}, 0, func(d api.Doc) bool { return d.Fonts[7].Glyphs[1].Advance == 7 }},
		{api.Edit{Kind: api.EditAdvance, At: 7, Byte: 33}, api.ErrGlyph, nil},
	} {
		got, no := Apply(d, stamped(x.e))
		if no != x.want || no == 0 && !x.did(got) {
			t.Errorf("case %d: %v", i, no)
		}
		if no != 0 {
			continue
		}
		back, _ := Undo(d, stamped(x.e))
		was, errors, _ := All(got, back)
		if !alike(was, d) || slices.Max(errors) != 0 {
			t.Errorf("case %d is not undone: %v", i, errors)
		}
	}
}
