// Package shapes goes through the readers of zones, and says what they get by cells. It is no layer: it is what the packages share that work on maps that are in order.
package shapes

import (
	"iter"
	"slices"

	"forme/api"
	"forme/quot"
)

// Row has the readers of a language and a scale with neighbouring widths.
type Row struct {
	Lang, Scale int
	Width       api.Range
}

// Rows produces the rows of zones in the canonical form, in the order of their readers.
func Rows(canon []api.Zone) iter.Seq[Row] {
	return func(yield func(Row) bool) {
		for from := 0; from < len(canon); {
			z := canon[from]
			until := from
			for until < len(canon) && canon[until].Lang == z.Lang && canon[until].Scale == z.Scale {
				until++
			}
			for s := z.Scale.Lo; s <= z.Scale.Hi; s++ {
				for _, same := range canon[from:until] {
					if !yield(Row{z.Lang, s, same.Width}) {
						return
					}
				}
			}
			from = until
		}
	}
}

// Zones returns the canonical form of rows that are in the order of their readers.
func Zones(rows []Row) []api.Zone {
	var zones, open []api.Zone
	flush := func(next []api.Zone) {
		n := len(open)
		if n == len(next) && n > 0 && next[0].Lang == open[0].Lang && next[0].Scale.Lo == open[0].Scale.Hi+1 &&
			slices.EqualFunc(open, next, func(a, b api.Zone) bool { return a.Width == b.Width }) {
			for i := range open {
				open[i].Scale.Hi = next[i].Scale.Hi
			}
			return
		}
		zones, open = append(zones, open...), next
	}
	for from := 0; from < len(rows); {
		until := from
		var next []api.Zone
		for ; until < len(rows) && rows[until].Lang == rows[from].Lang && rows[until].Scale == rows[from].Scale; until++ {
			r := rows[until]
			if n := len(next); n > 0 && next[n-1].Width.Hi+1 == r.Width.Lo {
				next[n-1].Width.Hi = r.Width.Hi
				continue
			}
			next = append(next, api.Zone{Lang: r.Lang, Scale: api.Range{Lo: r.Scale, Hi: r.Scale}, Width: r.Width})
		}
		flush(next)
		from = until
	}
	flush(nil)
	return zones
}

// Boxes returns what a reader with a width gets by a cell without an error.
func Boxes(c api.Cell, width int) []api.Box {
	var l []api.Box
	at := func(q api.Quot) int {
		v, _ := quot.At(q, width-c.From)
		return v
	}
	for _, s := range c.Shapes {
		b := api.Box{Node: s.Node, Cut: s.Cut, X: at(s.X), Y: at(s.Y), W: at(s.W), H: at(s.H)}
		for _, x := range s.Lines {
			b.Lines = append(b.Lines, api.Seen{Text: x.Text, X: at(x.X), Y: at(x.Y), W: at(x.W), H: at(x.H)})
		}
		l = append(l, b)
	}
	return l
}
