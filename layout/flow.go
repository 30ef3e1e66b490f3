package layout

import (
	"iter"

	"forme/api"
	"forme/floats"
	"forme/margins"
	"forme/position"
	"forme/stack"
	"forme/wrap"
)

// lay lays out a node with a width: it finds its height, and the boxes below it.
func (p *page) lay(i, width int) {
	pad, inner := p.inner(i, width)
	need := p.kinds[p.nodes[i].Kind](p, i, inner)
	p.boxes[i].W = width
	p.cut(i, need+2*pad)
}

// cut gives a box its height.
func (p *page) cut(i, h int) {
	if h > mostLength {
		panic(fault{api.ErrRange})
	}
	b := &p.boxes[i]
	b.H = h
	if p.nodes[i].Kind != api.KindCell {
		b.H, b.Cut, _ = stack.Cut(h, p.prop(i, api.PropCut))
	}
}

// inner returns the padding of a box, and its inner width.
func (p *page) inner(i, width int) (pad, inner int) {
	if p.isText(i) || p.nodes[i].Kind == api.KindPiece {
		return 0, width
	}
	pad, inner, e := position.Inner(p.known[i].Style, width)
	must(e)
	return pad, inner
}

// width returns the width of a box in a room.
func (p *page) width(i, room int) int {
	w, e := position.Width(p.known[i].Style, room)
	must(e)
	return w
}

// put says where a box begins in the inner box of its parent.
func (p *page) put(i, x, y int) {
	pad := 0
	if up := p.up[i]; p.nodes[up].Kind != api.KindTr {
		pad = p.prop(up, api.PropPad)
	}
	p.boxes[i].X, p.boxes[i].Y = x+pad, y+pad
}

// absolute lays out a positioned box.
func (p *page) absolute(i, w int) {
	b, e := position.Abs(p.known[i].Style, 0, 0, w)
	must(e)
	p.lay(i, b.W)
	p.put(i, b.X, b.Y)
}

// flowing produces the children of a node that are not positioned; those that are, are laid out where they come.
func (p *page) flowing(i, w int) iter.Seq2[int, int] {
	return func(yield func(n, kid int) bool) {
		n := 0
		for _, kid := range p.kids[i] {
			if p.nodes[kid].Kind == api.KindAbs {
				p.absolute(kid, w)
				continue
			}
			if !yield(n, kid) {
				return
			}
			n++
		}
	}
}

// items returns the children of a node that are not positioned.
func (p *page) items(i int) []int {
	var l []int
	for _, kid := range p.kids[i] {
		if p.nodes[kid].Kind != api.KindAbs {
			l = append(l, kid)
		}
	}
	return l
}

// stream is a flow that is being laid out.
type stream struct {
	w, y, open int
	floats     []api.Float
}

// flow lays out children one below the other, with floats beside them.
func (p *page) flow(i, w int) int {
	s := &stream{w: w}
	for _, kid := range p.flowing(i, w) {
		switch {
		case p.nodes[kid].Kind == api.KindFloat:
			p.float(kid, s)
		case p.isText(kid):
			p.paragraph(kid, s)
		default:
			p.block(kid, s)
		}
	}
	below, e := floats.Below(s.floats, 0, 0)
	must(e)
	return max(0, s.y+s.open, below)
}

// begin returns where the next child begins, by the margins.
func (s *stream) begin(above int) int {
	m, e := margins.Join(s.open, above)
	must(e)
	return max(0, s.y+m)
}

// within panics where something of a flow is too far down.
func within(y int) {
	if y > mostLength {
		panic(fault{api.ErrRange})
	}
}

// float lays out a float, and places it.
func (p *page) float(i int, s *stream) {
	p.lay(i, p.width(i, s.w/3))
	side := 1
	if p.prop(i, api.PropSide) == 2 {
		side = 2
	}
	b := p.boxes[i]
	l, e := floats.Place(s.floats, s.w, side, s.y, b.W, b.H)
	must(e)
	f := l[len(l)-1]
	within(f.Y + f.H)
	s.floats = l
	p.put(i, f.X, f.Y)
}

// paragraph sets a text of a flow beside its floats.
func (p *page) paragraph(i int, s *stream) {
	b := s.begin(p.prop(i, api.PropMarginTop))
	within(b)
	end := p.set(i, s.w, b, s.floats)
	within(end)
	p.cut(i, end-b)
	move(p.boxes[i].Lines, func(x *api.Seen) { x.Y -= b })
	p.put(i, 0, b)
	s.y, s.open = b+p.boxes[i].H, p.prop(i, api.PropMarginBottom)
}

// block lays out all else of a flow.
func (p *page) block(i int, s *stream) {
	below, e := floats.Below(s.floats, 0, 0)
	must(e)
	b := max(s.begin(p.prop(i, api.PropMarginTop)), below)
	within(b)
	p.lay(i, p.width(i, s.w))
	within(b + p.boxes[i].H)
	p.put(i, 0, b)
	s.y, s.open = b+p.boxes[i].H, p.prop(i, api.PropMarginBottom)
}

// set sets the lines of a text from a height on, and returns where they end.
func (p *page) set(i, w, y int, l []api.Float) int {
	scale := p.r.Scale
	line := (p.prop(i, api.PropLine)*scale + 99) / 100
	f, b := p.d.Fonts[p.prop(i, api.PropFont)], p.d.Breaks[p.r.Lang]
	seen, end, e := wrap.Lines(f, b, p.nodes[i].Text, scale, line, p.prop(i, api.PropAlign), p.prop(i, api.PropDir), w, y, l)
	must(e)
	p.boxes[i].W, p.boxes[i].Lines = w, seen
	return end
}

// text sets a text that is in no flow.
func (p *page) text(i, w int) int { return p.set(i, w, 0, nil) }

// piece returns the height that a piece was given.
func (p *page) piece(i, w int) int { return p.held[p.nodes[i].ID] }
