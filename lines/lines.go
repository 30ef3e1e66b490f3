// Package lines measures the parts of a text that can be lines. It is no layer: it is what the packages share that break texts.
package lines

import (
	"iter"

	"forme/api"
	"forme/breaks"
	"forme/ruler"
	"forme/text"
)

const hyphen = '-'

// Text is a text in a font at a scale. All widths of its parts follow from sums from its beginning on.
type Text struct {
	s      string
	scale  int
	places []api.Break
	// sums has the raw width before each byte, kerns how much closer it stands to the byte before it.
	sums, kerns []int
	// first and last have the nearest byte, from each one on and before it, that is neither a blank nor a soft hyphen.
	first, last []int
	// dash has the width of a hyphen after each byte, alone that of one after nothing.
	dash  []int
	alone int
}

// New returns a text for a valid font and rules that are well-formed, or false, if the font does not have what can be shown.
func New(f api.Font, b api.Breaks, s string, scale int) (*Text, bool) {
	places, _ := breaks.List(b, s)
	n := len(s)
	t := &Text{s: s, scale: scale, places: places, sums: make([]int, n+1), kerns: make([]int, n), first: make([]int, n+1), last: make([]int, n+1), dash: make([]int, n)}
	alone, dash := ruler.Advance(f, hyphen)
	for _, p := range places {
		if p.Hyphen && !dash {
			return nil, false
		}
	}
	t.alone = alone
	t.last[0] = -1
	shown := -1
	for i := range n {
		t.sums[i+1], t.last[i+1] = t.sums[i], t.last[i]
		if s[i] == '~' {
			continue
		}
		advance, ok := ruler.Advance(f, s[i])
		if !ok {
			return nil, false
		}
		if shown >= 0 {
			t.kerns[i] = ruler.Kern(f, s[shown], s[i])
		}
		shown = i
		t.sums[i+1] += advance + t.kerns[i]
		if s[i] != ' ' {
			t.last[i+1] = i
			t.dash[i] = alone + ruler.Kern(f, s[i], hyphen)
		}
	}
	t.first[n] = n
	for i := n - 1; i >= 0; i-- {
		t.first[i] = t.first[i+1]
		if s[i] != ' ' && s[i] != '~' {
			t.first[i] = i
		}
	}
	return t, true
}

// More reports whether there is a word from a byte on.
func (t *Text) More(from int) bool { return t.first[from] < len(t.s) }

// Next returns the line that begins at a byte.
func (t *Text) Next(from, room int) api.Line {
	fits := func(w int) bool { return w <= room }
	var best api.Line
	for end := range t.ends(from) {
		w := t.width(from, end)
		if best.Until == 0 || fits(w) {
			best = api.Line{From: from, Until: end.At, Width: w, Hyphen: end.Hyphen}
		}
	}
	return best
}

// All produces the lines of the text, for what says the room of the line with an index.
func (t *Text) All(room func(i int) int) iter.Seq[api.Line] {
	return func(yield func(api.Line) bool) {
		for i, from := 0, 0; t.More(from); i++ {
			l := t.Next(from, room(i))
			if !yield(l) {
				return
			}
			from = l.Until
		}
	}
}

// Seen returns what is seen of the bytes of a line of a text.
func Seen(s string, l api.Line) string {
	seen, _ := text.Shown(s[l.From:l.Until])
	seen, _ = text.Trim(seen)
	if l.Hyphen {
		seen += string(rune(hyphen))
	}
	return seen
}

// ends produces where a line that begins at a byte can end.
func (t *Text) ends(from int) iter.Seq[api.Break] {
	return func(yield func(api.Break) bool) {
		low, high := 0, len(t.places)
		for low < high {
			if mid := (low + high) / 2; t.places[mid].At > from {
				high = mid
			} else {
				low = mid + 1
			}
		}
		for _, p := range t.places[low:] {
			if !yield(p) {
				return
			}
		}
		yield(api.Break{At: len(t.s)})
	}
}

// width returns the width of what is seen from a byte to an end.
func (t *Text) width(from int, end api.Break) int {
	a, b := t.first[from], t.last[end.At]
	raw := 0
	if a <= b {
		raw = t.sums[b+1] - t.sums[a] - t.kerns[a]
	}
	switch {
	case end.Hyphen && a <= b:
		raw += t.dash[b]
	case end.Hyphen:
		raw = t.alone
	}
	return ruler.Scaled(raw, t.scale)
}
