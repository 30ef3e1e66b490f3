package font

import (
	"testing"

	"forme/api"
)

func TestEdges(t *testing.T) {
	f := api.Font{Glyphs: []api.Glyph{{Byte: 'a', Advance: 1000}, {Byte: 'b'}}, Kerns: []api.Kern{{Left: 'a', Right: 'a', By: 1000}, {Left: 'a', Right: 'b', By: -1000}}}
	if n, e := Raw(f, "aaab"); e != 0 || n != 4000 {
		t.Error(n, e)
	}
	for s, want := range map[string]api.Errno{"\n": api.ErrArg, "ac": api.ErrGlyph} {
		raw, e := Raw(f, s)
		width, e2 := Width(f, s, 100)
		if e != want || e2 != want || raw != 0 || width != 0 {
			t.Error(s, e, e2)
		}
	}
	for _, scale := range []int{49, 301} {
		if n, e := Width(f, "a", scale); e != api.ErrArg || n != 0 {
			t.Error(scale, e)
		}
	}
	for scale, want := range map[int]int{50: 500, 300: 3000} {
		if n, e := Width(f, "a", scale); e != 0 || n != want {
			t.Error(scale, n, e)
		}
	}
	for _, by := range []int{1001, -1001} {
		f.Kerns[0].By = by
		if Valid(f) {
			t.Error(by)
		}
	}
	if !Valid(api.Font{}) {
		t.Error("a font without glyphs")
	}
}
