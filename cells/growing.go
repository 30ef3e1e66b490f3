package cells

import (
	"slices"

	"forme/api"
	"forme/quot"
	"forme/shapes"
)

// growing is a cell that is still growing: the first page, and for each of its coordinates the values so far and the first quotient that fits them.
type growing struct {
	api.Cell
	page   []api.Box
	values [][]int
	quots  []api.Quot
}

// grow returns the map of zones in the canonical form, for what says what each reader gets, in order.
func grow(canon []api.Zone, get func(r api.Reader) ([]api.Box, api.Errno)) (api.Map, api.Errno) {
	m := api.Map{Zones: slices.Clone(canon)}
	for row := range shapes.Rows(canon) {
		var open *growing
		for w := row.Width.Lo; w <= row.Width.Hi; w++ {
			page, e := get(api.Reader{Lang: row.Lang, Scale: row.Scale, Width: w})
			if open != nil && open.take(page, e) {
				continue
			}
			if open != nil {
				m.Cells = append(m.Cells, open.ready())
			}
			open = begin(row, w, page, e)
			if len(m.Cells) >= api.MaxCells {
				return api.Map{}, api.ErrLimit
			}
		}
		m.Cells = append(m.Cells, open.ready())
	}
	return m, api.OK
}

// begin returns the cell that begins with a width.
func begin(row shapes.Row, w int, page []api.Box, e api.Errno) *growing {
	g := &growing{Cell: api.Cell{Lang: row.Lang, Scale: row.Scale, From: w, Until: w + 1, E: e}, page: page}
	each(page, func(v int) {
		g.values = append(g.values, []int{v})
		q, _, _ := quot.Fit([]int{v})
		g.quots = append(g.quots, q)
	})
	return g
}

// take adds what the next reader gets, if the cell can have it.
func (g *growing) take(page []api.Box, e api.Errno) bool {
	if e != g.E || !slices.EqualFunc(page, g.page, alike) {
		return false
	}
	next := slices.Clone(g.quots)
	var last []int
	fits := true
	each(page, func(v int) {
		i := len(last)
		last = append(last, v)
		if fits {
			next[i], fits = g.refit(i, v)
		}
	})
	if !fits {
		return false
	}
	for i, v := range last {
		g.values[i] = append(g.values[i], v)
	}
	g.quots = next
	g.Until++
	return true
}

// refit returns the first quotient that fits the values of a coordinate and a further one.
// The one so far is it, if it has the further value, too: what comes before it does not fit the values so far.
func (g *growing) refit(i, v int) (api.Quot, bool) {
	if w, e := quot.At(g.quots[i], g.Until-g.From); e == api.OK && w == v {
		return g.quots[i], true
	}
	all := append(slices.Clone(g.values[i]), v)
	q, ok, e := quot.Fit(all)
	return q, ok && e == api.OK
}

// ready returns the cell as it is.
func (g *growing) ready() api.Cell {
	at := 0
	quots := func() (x, y, w, h api.Quot) {
		l := g.quots[at : at+4]
		at += 4
		return l[0], l[1], l[2], l[3]
	}
	for _, b := range g.page {
		s := api.Shape{Node: b.Node, Cut: b.Cut}
		s.X, s.Y, s.W, s.H = quots()
		for _, line := range b.Lines {
			x := api.SeenAt{Text: line.Text}
			x.X, x.Y, x.W, x.H = quots()
			s.Lines = append(s.Lines, x)
		}
		g.Shapes = append(g.Shapes, s)
	}
	return g.Cell
}

// each collects all coordinates of boxes, in their order.
func each(l []api.Box, do func(v int)) {
	four := func(x, y, w, h int) {
		do(x)
		do(y)
		do(w)
		do(h)
	}
	for _, b := range l {
		four(b.X, b.Y, b.W, b.H)
		for _, s := range b.Lines {
			four(s.X, s.Y, s.W, s.H)
		}
	}
}

func alike(a, b api.Box) bool {
	return a.Node == b.Node && a.Cut == b.Cut && slices.EqualFunc(a.Lines, b.Lines, func(x, y api.Seen) bool { return x.Text == y.Text })
}
