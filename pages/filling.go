package pages

import (
	"iter"
	"slices"

	"forme/api"
)

// band has slices that stay together, and the notes of these.
type band struct {
	slices, notes []api.Slice
	end           int
	kept          bool
}

func (b *band) top() int { return b.slices[0].Y }

func (b *band) height() int { return b.end - b.top() }

func (b *band) table() int { return b.slices[0].Table }

// has reports whether a further slice belongs to the band.
func (b *band) has(s api.Slice) bool { return len(b.slices) == 0 || s.Y < b.end || b.kept }

func (b *band) add(s api.Slice, kept bool) {
	if len(b.slices) == 0 {
		b.end = s.Y
	}
	b.slices = append(b.slices, s)
	b.end = max(b.end, s.Y+s.H)
	b.kept = kept
}

// bands produces the bands of slices.
func bands(l []api.Slice, keep []bool) iter.Seq[*band] {
	return func(yield func(*band) bool) {
		open := &band{}
		for i, s := range l {
			if s.Note {
				open.notes = append(open.notes, s)
				continue
			}
			if !open.has(s) {
				if !yield(open) {
					return
				}
				open = &band{}
			}
			open.add(s, keep[i])
		}
		if len(open.slices) > 0 {
			yield(open)
		}
	}
}

// filling is a page that is being filled.
type filling struct {
	api.Paper
	number int
	step   int
	// fills has where the last band ends in each column so far, and end where the last one ended before it was placed.
	fills         []int
	bands, end    int
	below         int
	placed, notes []api.Slice
}

func begin(p api.Paper, number int) *filling {
	return &filling{Paper: p, number: number, step: readerOf(p).Width + p.Gap, fills: []int{0}}
}

// take places a band, if there is room for it.
func (f *filling) take(b *band) bool {
	if f.bands == 0 {
		f.put(b, 0)
		return true
	}
	left := f.Height - f.below - heightOf(b.notes)
	if slices.Max(f.fills) > left {
		return false
	}
	y := f.fills[len(f.fills)-1] + max(b.top()-f.end, 0)
	if y+b.height() <= left {
		f.put(b, y)
		return true
	}
	if len(f.fills) < f.Columns && b.height() <= left {
		f.fills = append(f.fills, 0)
		f.put(b, 0)
		return true
	}
	return false
}

// takeFirst places the first band of a page that is not the first one, below the heads of its table.
func (f *filling) takeFirst(b *band, heads []api.Slice) {
	y := 0
	isHead := func(s api.Slice) bool { return s.Head }
	if b.table() != 0 && len(heads) > 0 && !slices.ContainsFunc(b.slices, isHead) {
		from := heads[0].Y
		until := from
		for _, s := range heads {
			until = max(until, s.Y+s.H)
		}
		if until-from+b.height() <= f.Height-heightOf(b.notes) {
			f.place(heads, -from)
			y = until - from
		}
	}
	f.put(b, y)
}

// put places a band that begins at a height of the last column.
func (f *filling) put(b *band, y int) {
	f.place(b.slices, y-b.top())
	f.fills[len(f.fills)-1] = y + b.height()
	f.bands++
	f.end = b.end
	f.takeNotes(b.notes)
}

// place puts slices into the last column, moved down by some number.
func (f *filling) place(l []api.Slice, by int) {
	for _, s := range l {
		s.X += (len(f.fills) - 1) * f.step
		s.Y += by
		f.placed = append(f.placed, s)
	}
}

func (f *filling) takeNotes(l []api.Slice) {
	f.notes = append(f.notes, l...)
	f.below += heightOf(l)
}

// ready returns the page with its notes below all else.
func (f *filling) ready() api.Page {
	y := max(f.Height-f.below, slices.Max(f.fills))
	for _, s := range f.notes {
		s.Y = y
		y += s.H
		f.placed = append(f.placed, s)
	}
	return api.Page{Number: f.number, Slices: f.placed}
}

// heightOf returns how high slices are below each other.
func heightOf(l []api.Slice) int {
	h := 0
	for _, s := range l {
		h += s.H
	}
	return h
}
