package layout

import (
	"forme/api"
	"forme/breaks"
	"forme/font"
	"forme/grid"
	"forme/row"
	"forme/table"
	"forme/text"
)

// inCell lays out an item of a grid or a row in a width.
func (p *page) inCell(i, w int) {
	if !p.isText(i) {
		w = p.width(i, w)
	}
	p.lay(i, w)
}

// grid lays out children in columns and rows.
func (p *page) grid(i, w int) int {
	cols, gap := p.prop(i, api.PropCols), p.prop(i, api.PropGap)
	var spans, heights []int
	for _, kid := range p.items(i) {
		spans = append(spans, p.prop(kid, api.PropSpan))
	}
	widths, e := grid.Widths(cols, spans, w, gap)
	must(e)
	for n, kid := range p.flowing(i, w) {
		p.inCell(kid, widths[n])
		heights = append(heights, p.boxes[kid].H)
	}
	places, need, e := grid.Place(cols, spans, heights, w, gap)
	must(e)
	for n, kid := range p.items(i) {
		p.put(kid, places[n].X, places[n].Y)
	}
	return need
}

// row lays out children beside each other.
func (p *page) row(i, w int) int {
	items, gap := p.items(i), p.prop(i, api.PropGap)
	if len(items) > api.MaxTracks {
		panic(fault{api.ErrLimit})
	}
	var widths []int
	if len(items) > 0 {
		widths = p.shares(items, w, gap)
	}
	var heights []int
	for n, kid := range p.flowing(i, w) {
		p.inCell(kid, widths[n])
		heights = append(heights, p.boxes[kid].H)
	}
	if len(items) == 0 {
		return 0
	}
	places, need, e := row.Place(widths, heights, gap, p.prop(i, api.PropAlign), w)
	must(e)
	for n, kid := range items {
		p.put(kid, places[n].X, places[n].Y)
	}
	return need
}

// shares returns the widths of the items of a row.
func (p *page) shares(items []int, w, gap int) []int {
	equal := max(w-gap*(len(items)-1), 0) / len(items)
	var bases, grows []int
	for _, kid := range items {
		base := p.prop(kid, api.PropBasis)
		if base == 0 {
			base = equal
		}
		bases = append(bases, base)
		grows = append(grows, min(p.prop(kid, api.PropGrow), mostGrow))
	}
	widths, e := row.Widths(bases, grows, w, gap)
	must(e)
	return widths
}

// table lays out rows of cells.
func (p *page) table(i, w int) int {
	rows, columns := p.kids[i], 0
	for _, tr := range rows {
		columns = max(columns, len(p.kids[tr]))
		p.boxes[tr].W = w
		p.put(tr, 0, 0)
	}
	if columns > api.MaxTracks {
		panic(fault{api.ErrLimit})
	}
	if columns == 0 {
		return 0
	}
	gap := p.prop(i, api.PropGap)
	needs := make([][]api.Range, len(rows))
	for n, tr := range rows {
		for _, cell := range p.kids[tr] {
			needs[n] = append(needs[n], p.need(cell))
		}
	}
	all, e := table.Needs(needs)
	must(e)
	widths, e := table.Widths(all, w, gap)
	must(e)
	heights := make([][]int, len(rows))
	for n, tr := range rows {
		for k, cell := range p.kids[tr] {
			p.lay(cell, widths[k])
			heights[n] = append(heights[n], p.boxes[cell].H)
		}
	}
	places, need, e := table.Place(widths, heights, gap)
	must(e)
	p.putRows(rows, places, gap)
	return need
}

// putRows places the rows of a table, and their cells in them.
func (p *page) putRows(rows []int, places [][]api.Box, gap int) {
	y := 0
	for n, tr := range rows {
		p.put(tr, 0, y)
		for k, cell := range p.kids[tr] {
			p.put(cell, places[n][k].X, 0)
			p.boxes[cell].H = places[n][k].H
			p.boxes[tr].H = places[n][k].H
		}
		y += p.boxes[tr].H + gap
	}
}

// need returns how wide a cell has to be, and wants to be, by the texts below it.
func (p *page) need(cell int) api.Range {
	var n api.Range
	for i := range p.below(cell) {
		if !p.isText(i) {
			continue
		}
		f, s := p.d.Fonts[p.prop(i, api.PropFont)], p.nodes[i].Text
		parts, e := breaks.Least(p.d.Breaks[p.r.Lang], s)
		must(e)
		for _, part := range parts {
			n.Lo = max(n.Lo, p.measure(f, part))
		}
		shown, e := text.Shown(s)
		must(e)
		shown, e = text.Trim(shown)
		must(e)
		n.Hi = max(n.Hi, p.measure(f, shown))
	}
	n.Hi = max(n.Hi, n.Lo)
	pads := 2 * p.prop(cell, api.PropPad)
	return api.Range{Lo: min(n.Lo+pads, mostLength), Hi: min(n.Hi+pads, mostLength)}
}

func (p *page) measure(f api.Font, s string) int {
	w, e := font.Width(f, s, p.r.Scale)
	must(e)
	return w
}

// below produces all nodes below a node that are not hidden.
func (p *page) below(i int) func(yield func(int) bool) {
	return func(yield func(int) bool) {
		var walk func(i int) bool
		walk = func(i int) bool {
			for _, kid := range p.kids[i] {
				if !yield(kid) || !walk(kid) {
					return false
				}
			}
			return true
		}
		walk(i)
	}
}
