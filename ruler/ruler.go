// Package ruler finds advances and kerns in valid fonts. It is no layer: it is what the packages share that measure texts.
package ruler

import (
	"cmp"
	"iter"

	"forme/api"
	"forme/search"
)

// Advance returns the advance of a byte, and whether the font has a glyph of it.
func Advance(f api.Font, b byte) (int, bool) {
	g, ok := find(f.Glyphs, func(g api.Glyph) int { return cmp.Compare(g.Byte, b) })
	return g.Advance, ok
}

// Kern returns how much closer or farther two neighbouring bytes stand.
func Kern(f api.Font, left, right byte) int {
	k, _ := find(f.Kerns, func(k api.Kern) int {
		return cmp.Or(cmp.Compare(k.Left, left), cmp.Compare(k.Right, right))
	})
	return k.By
}

// Pairs produces each two bytes that stand next to each other.
func Pairs(shown string) iter.Seq2[byte, byte] {
	return func(yield func(left, right byte) bool) {
		for i := 1; i < len(shown); i++ {
			if !yield(shown[i-1], shown[i]) {
				return
			}
		}
	}
}

// Scaled returns a raw width at a scale, rounded up.
func Scaled(raw, scale int) int { return (raw*scale + 99) / 100 }

// find returns what has the order 0 in a sorted list.
func find[T any](l []T, order func(x T) int) (found T, ok bool) {
	if i, ok := search.Find(l, order); ok {
		return l[i], true
	}
	return found, false
}
