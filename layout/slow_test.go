package layout

import (
	"reflect"
	"testing"

	"forme/api"
	"forme/breaks"
	"forme/contain"
	"forme/floats"
	"forme/font"
	"forme/grid"
	"forme/margins"
	"forme/position"
	"forme/row"
	"forme/sample"
	"forme/stack"
	"forme/table"
	"forme/text"
	"forme/tracks"
	"forme/tree"
	"forme/wrap"
)

// slow lays out a page step by step as the chapter says it, with all places on the page from the beginning.
type slow struct {
	d     api.Doc
	r     api.Reader
	held  map[int]int
	style map[int]api.Style
	node  map[int]api.Node
	below map[int][]int
	box   map[int]*api.Box
}

func slowly(d api.Doc, r api.Reader, held []api.Held) (out []api.Box, e api.Errno) {
	defer func() {
		if x := recover(); x != nil {
			out, e = nil, x.(fault).e
		}
	}()
	must(contain.Check(d, r))
	p := &slow{d, r, map[int]int{}, map[int]api.Style{}, map[int]api.Node{}, map[int][]int{}, map[int]*api.Box{}}
	for _, h := range held {
		p.held[h.Node] = h.H
	}
	var shown []int
	for _, n := range d.Nodes {
		if p.hidden(n.ID) {
			continue
		}
		shown = append(shown, n.ID)
		p.style[n.ID], _ = contain.Style(d, n.ID, r)
		p.node[n.ID] = n
		p.below[n.Parent] = append(p.below[n.Parent], n.ID)
		p.box[n.ID] = &api.Box{Node: n.ID}
	}
	for _, id := range shown {
		p.look(id)
	}
	if len(shown) > 0 {
		w, e := position.Width(p.style[d.Nodes[0].ID], r.Width)
		must(e)
		p.lay(d.Nodes[0].ID, 0, 0, w)
	}
	for _, id := range shown {
		out = append(out, *p.box[id])
	}
	return out, api.OK
}

func (p *slow) hidden(id int) bool {
	path, _ := tree.Path(p.d.Nodes, id)
	for _, up := range path {
		if s, e := contain.Style(p.d, up, p.r); e != api.OK || s[api.PropHide] == 1 {
			return true
		}
	}
	return false
}

func (p *slow) isText(id int) bool {
	return p.node[id].Kind == api.KindText || p.node[id].Kind == api.KindNote
}

// look looks at the font of a text.
func (p *slow) look(id int) {
	if !p.isText(id) {
		return
	}
	f := p.style[id][api.PropFont]
	if f >= len(p.d.Fonts) {
		must(api.ErrGlyph)
	}
	if ok, _ := font.Has(p.d.Fonts[f], p.node[id].Text); !ok {
		must(api.ErrGlyph)
	}
	l, _ := breaks.List(p.d.Breaks[p.r.Lang], p.node[id].Text)
	for _, b := range l {
		if ok, _ := font.Has(p.d.Fonts[f], "-"); b.Hyphen && !ok {
			must(api.ErrGlyph)
		}
	}
}

// lay lays out a node that begins at a place with a width.
func (p *slow) lay(id, x, y, w int) {
	b := p.box[id]
	b.X, b.Y, b.W = x, y, w
	pad, inner, e := position.Inner(p.style[id], w)
	must(e)
	need := 0
	switch p.node[id].Kind {
	case api.KindPiece:
		pad, need = 0, p.held[id]
	case api.KindText, api.KindNote:
		pad, need = 0, p.lines(id, x, y, w, 0, nil)
	case api.KindGrid:
		need = p.items(id, x+pad, y+pad, inner, p.inGrid)
	case api.KindRow:
		need = p.items(id, x+pad, y+pad, inner, p.inRow)
	case api.KindTable:
		need = p.table(id, x+pad, y+pad, inner)
	default:
		need = p.flow(id, x+pad, y+pad, inner)
	}
	p.end(id, need+2*pad)
}

func (p *slow) end(id, h int) {
	if h > 1000000 {
		must(api.ErrRange)
	}
	b := p.box[id]
	b.H = h
	if p.node[id].Kind != api.KindCell {
		b.H, b.Cut, _ = stack.Cut(h, p.style[id][api.PropCut])
	}
}

// lines sets the lines of a text from a height on, counted from y.
func (p *slow) lines(id, x, y, w, from int, fl []api.Float) int {
	s := p.style[id]
	line := (s[api.PropLine]*p.r.Scale + 99) / 100
	l, end, e := wrap.Lines(p.d.Fonts[s[api.PropFont]], p.d.Breaks[p.r.Lang], p.node[id].Text, p.r.Scale, line, s[api.PropAlign], s[api.PropDir], w, from, fl)
	must(e)
	for i := range l {
		l[i].X += x
		l[i].Y += y
	}
	p.box[id].Lines = l
	return end
}

func (p *slow) absolute(id, x, y, w int) {
	b, e := position.Abs(p.style[id], x, y, w)
	must(e)
	p.lay(id, b.X, b.Y, b.W)
}

func (p *slow) shift(id, x, y int) {
	b := p.box[id]
	b.X, b.Y = b.X+x, b.Y+y
	for i := range b.Lines {
		b.Lines[i].X += x
		b.Lines[i].Y += y
	}
	for _, k := range p.below[id] {
		p.shift(k, x, y)
	}
}

func (p *slow) flow(id, x, y0, w int) int {
	var fl []api.Float
	var open []int
	y := 0
	far := func(n int) {
		if n > 1000000 {
			must(api.ErrRange)
		}
	}
	for _, k := range p.below[id] {
		s, kind := p.style[k], p.node[k].Kind
		m, _ := margins.Join(append(append([]int{}, open...), s[api.PropMarginTop])...)
		b := max(y+m, 0)
		below, _ := floats.Below(fl, w, 0)
		switch {
		case kind == api.KindAbs:
			p.absolute(k, x, y0, w)
			continue
		case kind == api.KindFloat:
			fl = p.float(k, x, y0, w, y, fl)
			f := fl[len(fl)-1]
			far(f.Y + f.H)
			continue
		case p.isText(k):
			far(b)
			end := p.lines(k, x, y0, w, b, fl)
			far(end)
			box := p.box[k]
			box.X, box.Y, box.W = x, y0+b, w
			p.end(k, end-b)
		default:
			b = max(b, below)
			far(b)
			bw, e := position.Width(s, w)
			must(e)
			p.lay(k, x, y0+b, bw)
			far(b + p.box[k].H)
		}
		y, open = b+p.box[k].H, []int{s[api.PropMarginBottom]}
	}
	m, _ := margins.Join(open...)
	below, _ := floats.Below(fl, w, 0)
	return max(0, y+m, below)
}

func (p *slow) float(id, x, y0, w, y int, fl []api.Float) []api.Float {
	own, e := position.Width(p.style[id], w/3)
	must(e)
	p.lay(id, x, y0, own)
	side := 1
	if p.style[id][api.PropSide] == 2 {
		side = 2
	}
	fl, e = floats.Place(fl, w, side, y, p.box[id].W, p.box[id].H)
	must(e)
	p.shift(id, fl[len(fl)-1].X, fl[len(fl)-1].Y)
	return fl
}

// items lays out the children of a grid or a row, for what says their widths, and later their places.
func (p *slow) items(id, x, y, w int, in func(id, w int, items []int) ([]int, func(heights []int) ([]api.Box, int))) int {
	var items []int
	for _, k := range p.below[id] {
		if p.node[k].Kind != api.KindAbs {
			items = append(items, k)
		}
	}
	widths, place := in(id, w, items)
	var heights []int
	for _, k := range p.below[id] {
		if p.node[k].Kind == api.KindAbs {
			p.absolute(k, x, y, w)
			continue
		}
		own := widths[len(heights)]
		if !p.isText(k) {
			var e api.Errno
			own, e = position.Width(p.style[k], own)
			must(e)
		}
		p.lay(k, x, y, own)
		heights = append(heights, p.box[k].H)
	}
	boxes, h := place(heights)
	for i, k := range items {
		p.shift(k, boxes[i].X, boxes[i].Y)
	}
	return h
}

func (p *slow) inGrid(id, w int, items []int) ([]int, func(heights []int) ([]api.Box, int)) {
	cols, gap := p.style[id][api.PropCols], p.style[id][api.PropGap]
	var spans []int
	for _, k := range items {
		spans = append(spans, p.style[k][api.PropSpan])
	}
	widths, e := grid.Widths(cols, spans, w, gap)
	must(e)
	return widths, func(heights []int) ([]api.Box, int) {
		boxes, h, e := grid.Place(cols, spans, heights, w, gap)
		must(e)
		return boxes, h
	}
}

func (p *slow) inRow(id, w int, items []int) ([]int, func(heights []int) ([]api.Box, int)) {
	gap, n := p.style[id][api.PropGap], len(items)
	if n > 64 {
		must(api.ErrLimit)
	}
	if n == 0 {
		return nil, func([]int) ([]api.Box, int) { return nil, 0 }
	}
	var bases, grows []int
	for _, k := range items {
		base := p.style[k][api.PropBasis]
		if base == 0 {
			base = max(0, w-gap*(n-1)) / n
		}
		bases, grows = append(bases, base), append(grows, min(1000, p.style[k][api.PropGrow]))
	}
	widths, e := row.Widths(bases, grows, w, gap)
	must(e)
	return widths, func(heights []int) ([]api.Box, int) {
		boxes, h, e := row.Place(widths, heights, gap, p.style[id][api.PropAlign], w)
		must(e)
		return boxes, h
	}
}

func (p *slow) table(id, x, y, w int) int {
	gap, cols := p.style[id][api.PropGap], 0
	var needs [][]api.Range
	for _, tr := range p.below[id] {
		*p.box[tr] = api.Box{Node: tr, X: x, Y: y, W: w}
		cols = max(cols, len(p.below[tr]))
		var l []api.Range
		for _, c := range p.below[tr] {
			lo, hi := p.need(c)
			pad := 2 * p.style[c][api.PropPad]
			l = append(l, api.Range{Lo: min(lo+pad, 1000000), Hi: min(max(lo, hi)+pad, 1000000)})
		}
		needs = append(needs, l)
	}
	if cols > 64 {
		must(api.ErrLimit)
	}
	if cols == 0 {
		return 0
	}
	need, e := table.Needs(needs)
	must(e)
	widths, e := table.Widths(need, w, gap)
	must(e)
	starts, _ := tracks.Starts(widths, gap)
	var heights [][]int
	for _, tr := range p.below[id] {
		var l []int
		for i, c := range p.below[tr] {
			p.lay(c, x+starts[i], y, widths[i])
			l = append(l, p.box[c].H)
		}
		heights = append(heights, l)
	}
	boxes, h, e := table.Place(widths, heights, gap)
	must(e)
	at := 0
	for i, tr := range p.below[id] {
		b := p.box[tr]
		b.Y += at
		for j, c := range p.below[tr] {
			p.shift(c, 0, boxes[i][j].Y)
			p.box[c].H = boxes[i][j].H
			b.H = boxes[i][j].H
		}
		at += b.H + gap
	}
	return h
}

// need returns how wide the texts below a node have to be, and want to be.
func (p *slow) need(id int) (lo, hi int) {
	for _, k := range p.below[id] {
		a, b := p.need(k)
		lo, hi = max(lo, a), max(hi, b)
		if !p.isText(k) {
			continue
		}
		f := p.d.Fonts[p.style[k][api.PropFont]]
		parts, _ := breaks.Least(p.d.Breaks[p.r.Lang], p.node[k].Text)
		for _, s := range parts {
			n, _ := font.Width(f, s, p.r.Scale)
			lo = max(lo, n)
		}
		s, _ := text.Shown(p.node[k].Text)
		s, _ = text.Trim(s)
		n, _ := font.Width(f, s, p.r.Scale)
		hi = max(hi, n)
	}
	return lo, hi
}

// grown puts more nodes into a document, so that tables have cells.
func grown(dice *sample.Dice, d api.Doc) api.Doc {
	for id := 30; id < 60; id++ {
		up := d.Nodes[dice.N(len(d.Nodes))]
		n := sample.Node(id, up.ID, 1+dice.N(11), dice.N(3), "")
		switch up.Kind {
		case api.KindTable:
			n.Kind = api.KindTr
		case api.KindTr:
			n.Kind = api.KindCell
		}
		if n.Kind == api.KindText || n.Kind == api.KindNote {
			n.Text = sample.Text(dice)
		}
		if l, e := tree.Insert(d.Nodes, n, 0); e == api.OK {
			d.Nodes = l
		}
	}
	return d
}

func TestSlowly(t *testing.T) {
	errors := map[api.Errno]int{}
	for seed := range 4000 {
		dice := sample.Roll(seed)
		d := sample.Random(dice)
		if seed%2 == 0 {
			d = grown(dice, d)
		}
		if seed%9 == 0 {
			d.Rules = append(d.Rules, sample.Rules(dice.Pick("rule 9 text { font: 2; }", "rule 9 *.1 { cut: 7; }", "rule 9 cell { pad: 70; }", "rule 9 *.2 { above: 90000 * 9; }", "rule 9 * { line: 90000; }", "rule 9 *.1 { gap: 60; }"))...)
		}
		if seed%13 == 0 {
			d.Fonts[0].Glyphs, d.Fonts[0].Kerns = append(d.Fonts[0].Glyphs[:13:13], d.Fonts[0].Glyphs[14:]...), nil
		}
		r := api.Reader{Width: 200 + dice.N(200), Scale: 50 + dice.N(251), Lang: dice.N(4)}
		var held []api.Held
		for id := 1; id < 60; id += 1 + dice.N(5) {
			held = append(held, api.Held{Node: id, H: dice.N(30)})
		}
		got, e := Lay(d, r, held)
		want, e2 := slowly(d, r, held)
		errors[e]++
		if e != e2 || len(got) != len(want) {
			t.Fatalf("seed %d: %v, not %v", seed, e, e2)
		}
		for i := range got {
			if len(got[i].Lines) == 0 && len(want[i].Lines) == 0 {
				got[i].Lines = want[i].Lines
			}
			if !reflect.DeepEqual(got[i], want[i]) {
				t.Fatalf("seed %d: %v, not %v", seed, got[i], want[i])
			}
		}
	}
	for _, e := range []api.Errno{api.OK, api.ErrGlyph, api.ErrFit, api.ErrRange} {
		if errors[e] < 5 {
			t.Errorf("%v: %d times", e, errors[e])
		}
	}
}
