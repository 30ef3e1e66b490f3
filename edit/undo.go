package edit

import (
	"slices"

	"forme/api"
	"forme/tree"
)

// after returns the next child of the same parent after a node, or 0.
func after(d api.Doc, i int) int {
	for _, n := range d.Nodes[i+1:] {
		if n.Parent == d.Nodes[i].Parent {
			return n.ID
		}
	}
	return 0
}

func undoInsert(d api.Doc, e api.Edit) []api.Edit {
	return []api.Edit{{Kind: api.EditRemove, ID: e.Node.ID}}
}

func undoRemove(d api.Doc, e api.Edit) []api.Edit {
	i := find(d, e.ID)
	left, _ := tree.Remove(d.Nodes, e.ID)
	l := []api.Edit{{Kind: api.EditInsert, Node: d.Nodes[i], Before: after(d, i)}}
	at := 0
	for _, n := range d.Nodes {
		if at < len(left) && left[at].ID == n.ID {
			at++
		} else if n.ID != e.ID {
			l = append(l, api.Edit{Kind: api.EditInsert, Node: n})
		}
	}
	return l
}

func undoMove(d api.Doc, e api.Edit) []api.Edit {
	i := find(d, e.ID)
	return []api.Edit{{Kind: api.EditMove, ID: e.ID, Parent: d.Nodes[i].Parent, Before: after(d, i)}}
}

func undoText(d api.Doc, e api.Edit) []api.Edit {
	e.Text = d.Nodes[find(d, e.ID)].Text
	return []api.Edit{e}
}

func undoClass(d api.Doc, e api.Edit) []api.Edit {
	e.N = d.Nodes[find(d, e.ID)].Class
	return []api.Edit{e}
}

func undoRule(d api.Doc, e api.Edit) []api.Edit {
	if e.At == len(d.Rules) {
		return []api.Edit{{Kind: api.EditDrop, At: e.At}}
	}
	e.Rule = d.Rules[e.At]
	return []api.Edit{e}
}

func undoDrop(d api.Doc, e api.Edit) []api.Edit {
	var l []api.Edit
	for at, r := range slices.All(d.Rules) {
		if at >= e.At {
			l = append(l, api.Edit{Kind: api.EditRule, At: at, Rule: r})
		}
	}
	return l
}

func undoAdvance(d api.Doc, e api.Edit) []api.Edit {
	e.N = d.Fonts[e.At].Glyphs[glyph(d, e)].Advance
	return []api.Edit{e}
}
