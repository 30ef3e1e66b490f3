// Package descent goes down well-formed documents, and says what is known of each node on the way. It is no layer: it is what the packages share that need the styles of whole documents.
package descent

import (
	"iter"

	"forme/api"
	"forme/decide"
	"forme/match"
)

// Known is what is known of a node, by its path.
type Known struct {
	api.Style
	Kind int
	// Asked: all nodes above it have styles, and none of them is hidden. Exists: so does it.
	Asked, Exists bool
	// Own: it is a block of its own, with an inner width.
	Own   bool
	Inner int
	// Room is what percentages are about; Box and BoxWidth what box conditions are about (0 and -1: nothing).
	Room, Box, BoxWidth int
}

// Hidden reports whether the node hides itself.
func (k Known) Hidden() bool { return k.Style[api.PropHide] == 1 }

// Seen reports whether a node is asked for, has a style, and is not hidden.
func (k Known) Seen() bool { return k.Asked && k.Exists && !k.Hidden() }

// All returns what is known of each node; below hidden nodes nothing is.
func All(d api.Doc, r api.Reader) []Known {
	l := make([]Known, len(d.Nodes))
	up := match.Parents(d.Nodes)
	sheet := decide.New(d.Nodes, up, d.Rules)
	for i, k := range Down(d.Nodes, up, sheet, r, false) {
		l[i] = k
	}
	return l
}

// Path returns what is known of each node of a path, also below hidden ones.
func Path(path []api.Node, rules []api.Rule, r api.Reader) []Known {
	up := match.Parents(path)
	l := make([]Known, len(path))
	for i, k := range Down(path, up, decide.New(path, up, rules), r, true) {
		l[i] = k
	}
	return l
}

// Down produces what is known of each node, in their order.
func Down(nodes []api.Node, up []int, sheet *decide.Sheet, r api.Reader, through bool) iter.Seq2[int, Known] {
	return func(yield func(int, Known) bool) {
		l := make([]Known, len(nodes))
		closed := map[int]bool{}
		for i, n := range nodes {
			k := Known{Asked: i == 0, Room: r.Width, BoxWidth: -1}
			parent := decide.First()
			if i > 0 {
				above := l[up[i]]
				parent = above.Style
				k = below(above, nodes[up[i]].ID)
				k.Asked = above.Asked && above.Exists && !closed[n.Parent]
			}
			k.Kind = n.Kind
			if k.Asked {
				k.Style, k.Exists = sheet.Style(i, r, parent, k.Room, k.BoxWidth)
				k.Own = n.Kind == api.KindBlock && (i == 0 || l[up[i]].Own)
				closed[n.ID] = k.Hidden() && !through
			}
			if k.Own && k.Exists {
				k.Inner = inner(k.Style, k.Room)
			}
			l[i] = k
			if !yield(i, k) {
				return
			}
		}
	}
}

// below returns what is known of the room and the box of the children of a node.
func below(above Known, id int) Known {
	k := Known{Room: above.Room, Box: above.Box, BoxWidth: above.BoxWidth}
	if above.Own {
		k.Room = above.Inner
		if above.Style[api.PropBox] == 1 {
			k.Box, k.BoxWidth = id, above.Inner
		}
	}
	return k
}

// inner returns the inner width of a block of its own.
func inner(s api.Style, room int) int {
	w := s[api.PropWidth]
	if w == 0 {
		w = room
	}
	if s[api.PropMax] != 0 {
		w = min(w, s[api.PropMax])
	}
	w = max(w, s[api.PropMin])
	return max(w-2*s[api.PropPad], 0)
}
