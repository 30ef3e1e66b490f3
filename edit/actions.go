package edit

import (
	"slices"

	"forme/api"
	"forme/font"
	"forme/sheet"
	"forme/text"
	"forme/tree"
)

const (
	mostID    = 1000000
	mostClass = 100
	firstByte = 32
	lastByte  = 125
)

// action is what a kind of edit needs (it clears the fields that it looks at), does, and is undone by.
type action struct {
	needs func(e *api.Edit) bool
	does  func(d *api.Doc, e api.Edit) api.Errno
	undo  func(d api.Doc, e api.Edit) []api.Edit
}

func actions() map[int]action {
	return map[int]action{
		api.EditInsert:  {needsNode, insert, undoInsert},
		api.EditRemove:  {needsID, remove, undoRemove},
		api.EditMove:    {needsPlace, move, undoMove},
		api.EditText:    {needsText, setText, undoText},
		api.EditClass:   {needsClass, setClass, undoClass},
		api.EditRule:    {needsRule, setRule, undoRule},
		api.EditDrop:    {needsAt, drop, undoDrop},
		api.EditAdvance: {needsAdvance, setAdvance, undoAdvance},
	}
}

func isID(n int) bool { return n >= 1 && n <= mostID }

func isBefore(n int) bool { return n >= 0 && n <= mostID }

func isAt(n int) bool { return n >= 0 && n <= api.MaxRules }

func needsNode(e *api.Edit) bool {
	// Into a tree of a root alone a node cannot be put as an argument only if it is not well-formed.
	_, no := tree.Insert([]api.Node{{ID: 1, Kind: api.KindBlock}}, e.Node, 0)
	ok := no != api.ErrArg && isBefore(e.Before)
	e.Node, e.Before = api.Node{}, 0
	return ok
}

func needsID(e *api.Edit) bool {
	ok := isID(e.ID)
	e.ID = 0
	return ok
}

func needsPlace(e *api.Edit) bool {
	ok := isID(e.Parent) && isBefore(e.Before)
	e.Parent, e.Before = 0, 0
	return needsID(e) && ok
}

func needsText(e *api.Edit) bool {
	ok := text.Valid(e.Text)
	e.Text = ""
	return needsID(e) && ok
}

func needsClass(e *api.Edit) bool {
	ok := e.N >= 0 && e.N <= mostClass
	e.N = 0
	return needsID(e) && ok
}

func needsRule(e *api.Edit) bool {
	ok := sheet.Valid([]api.Rule{e.Rule})
	e.Rule = api.Rule{}
	return needsAt(e) && ok
}

func needsAt(e *api.Edit) bool {
	ok := isAt(e.At)
	e.At = 0
	return ok
}

func needsAdvance(e *api.Edit) bool {
	ok := e.At >= 0 && e.At < api.MaxFonts && e.Byte >= firstByte && e.Byte <= lastByte && e.N >= 0 && e.N <= api.MaxAdvance
	e.At, e.Byte, e.N = 0, 0, 0
	return ok
}

// put replaces the nodes of a document, if there was no error.
func put(d *api.Doc, l []api.Node, no api.Errno) api.Errno {
	if no == api.OK {
		d.Nodes = l
	}
	return no
}

func insert(d *api.Doc, e api.Edit) api.Errno {
	l, no := tree.Insert(d.Nodes, e.Node, e.Before)
	return put(d, l, no)
}

func remove(d *api.Doc, e api.Edit) api.Errno {
	l, no := tree.Remove(d.Nodes, e.ID)
	return put(d, l, no)
}

func move(d *api.Doc, e api.Edit) api.Errno {
	l, no := tree.Move(d.Nodes, e.ID, e.Parent, e.Before)
	return put(d, l, no)
}

// find returns the index of a node, or less than 0.
func find(d api.Doc, id int) int {
	return slices.IndexFunc(d.Nodes, func(n api.Node) bool { return n.ID == id })
}

func setText(d *api.Doc, e api.Edit) api.Errno {
	i := find(*d, e.ID)
	if i < 0 {
		return api.ErrNone
	}
	if kind := d.Nodes[i].Kind; kind != api.KindText && kind != api.KindNote {
		return api.ErrKind
	}
	d.Nodes[i].Text = e.Text
	return api.OK
}

func setClass(d *api.Doc, e api.Edit) api.Errno {
	i := find(*d, e.ID)
	if i < 0 {
		return api.ErrNone
	}
	d.Nodes[i].Class = e.N
	return api.OK
}

func setRule(d *api.Doc, e api.Edit) api.Errno {
	switch n := len(d.Rules); {
	case e.At > n:
		return api.ErrNone
	case e.At == api.MaxRules:
		return api.ErrLimit
	case e.At == n:
		d.Rules = append(d.Rules, e.Rule)
	default:
		d.Rules[e.At] = e.Rule
	}
	return api.OK
}

func drop(d *api.Doc, e api.Edit) api.Errno {
	if e.At >= len(d.Rules) {
		return api.ErrNone
	}
	d.Rules = append(d.Rules[:e.At:e.At], d.Rules[e.At+1:]...)
	return api.OK
}

// glyph returns the index of the glyph that an edit is about.
func glyph(d api.Doc, e api.Edit) int {
	return slices.IndexFunc(d.Fonts[e.At].Glyphs, func(g api.Glyph) bool { return g.Byte == e.Byte })
}

func setAdvance(d *api.Doc, e api.Edit) api.Errno {
	if e.At >= len(d.Fonts) {
		return api.ErrNone
	}
	i := glyph(*d, e)
	if i < 0 {
		return api.ErrGlyph
	}
	d.Fonts[e.At].Glyphs[i].Advance = e.N
	if !font.Valid(d.Fonts[e.At]) {
		return api.ErrRange
	}
	return api.OK
}
