package font

import (
	"math/rand"
	"slices"
	"strings"
	"testing"

	"forme/api"
)

func example() api.Font {
	return api.Font{
		Glyphs: []api.Glyph{{Byte: ' ', Advance: 200}, {Byte: 'a', Advance: 500}, {Byte: 'b', Advance: 300}},
		Kerns:  []api.Kern{{Left: 'a', Right: 'b', By: -50}},
	}
}

func random(r *rand.Rand) api.Font {
	f := api.Font{}
	for _, b := range []byte(" -abc") {
		f.Glyphs = append(f.Glyphs, api.Glyph{Byte: b, Advance: r.Intn(100)})
	}
	for _, g := range f.Glyphs {
		for _, h := range f.Glyphs {
			if r.Intn(3) == 0 {
				f.Kerns = append(f.Kerns, api.Kern{Left: g.Byte, Right: h.Byte, By: r.Intn(100) - g.Advance})
			}
		}
	}
	return f
}

func word(r *rand.Rand) string {
	b := make([]byte, r.Intn(9))
	for i := range b {
		b[i] = " -abc~"[r.Intn(6)]
	}
	return string(b)
}

func raw(t *testing.T, f api.Font, s string) int {
	t.Helper()
	n, e := Raw(f, s)
	if e != api.OK {
		t.Fatalf("%q: %v", s, e)
	}
	return n
}

func TestExample(t *testing.T) {
	f := example()
	if raw(t, f, "ab a") != 1450 || raw(t, f, "a~b") != 750 || raw(t, f, "~") != 0 {
		t.Error("raw widths")
	}
	for scale, want := range map[int]int{150: 1125, 99: 743, 100: 750} {
		if w, e := Width(f, "ab", scale); w != want || e != api.OK {
			t.Errorf("%d percent: %d, %v", scale, w, e)
		}
	}
}

func TestProperties(t *testing.T) {
	r := rand.New(rand.NewSource(1))
	for range 1000 {
		f := random(r)
		if !Valid(f) {
			t.Fatalf("%v is not valid", f)
		}
		a, b := word(r), word(r)
		x, y := strings.ReplaceAll(a, "~", ""), strings.ReplaceAll(b, "~", "")
		want := raw(t, f, a) + raw(t, f, b)
		if x != "" && y != "" {
			for _, k := range f.Kerns {
				if k.Left == x[len(x)-1] && k.Right == y[0] {
					want += k.By
				}
			}
		}
		if got := raw(t, f, a+b); got != want || got < raw(t, f, b) || got != raw(t, f, x+y) {
			t.Fatalf("%q and %q: %d, want %d", a, b, got, want)
		}
		n, scale := raw(t, f, a), 50+r.Intn(251)
		w, _ := Width(f, a, scale)
		if w*100 < n*scale || w*100 >= n*scale+100 {
			t.Fatalf("%d at %d is %d", n, scale, w)
		}
		if scale < 300 {
			if v, _ := Width(f, a, scale+1); v < w {
				t.Fatal("a greater scale makes less")
			}
		}
		more := api.Font{Glyphs: slices.Clone(f.Glyphs), Kerns: f.Kerns}
		i := r.Intn(len(more.Glyphs))
		more.Glyphs[i].Advance += 7
		if raw(t, more, a) != n+7*strings.Count(a, string(more.Glyphs[i].Byte)) {
			t.Fatalf("a greater advance in %q", a)
		}
	}
}

func TestOtherGlyphs(t *testing.T) {
	f := example()
	f.Glyphs = append(f.Glyphs, api.Glyph{Byte: 'c', Advance: 9})
	f.Kerns = append(f.Kerns, api.Kern{Left: 'c', Right: 'a', By: 9})
	if raw(t, f, "ab a") != 1450 {
		t.Error("glyphs that are not shown play a part")
	}
}

func TestInvalidFonts(t *testing.T) {
	g := func(b byte, a int) api.Glyph { return api.Glyph{Byte: b, Advance: a} }
	k := func(l, r byte, by int) api.Kern { return api.Kern{Left: l, Right: r, By: by} }
	ab := []api.Glyph{g('a', 5), g('b', 6)}
	for i, f := range []api.Font{
		{Glyphs: []api.Glyph{g(31, 1)}}, {Glyphs: []api.Glyph{g(126, 1)}}, {Glyphs: []api.Glyph{g('b', 1), g('a', 1)}},
		{Glyphs: []api.Glyph{g('a', 1), g('a', 1)}}, {Glyphs: []api.Glyph{g('a', -1)}}, {Glyphs: []api.Glyph{g('a', 1001)}},
		{Glyphs: ab, Kerns: []api.Kern{k('a', 'c', 1)}}, {Glyphs: ab, Kerns: []api.Kern{k('c', 'a', 1)}},
		{Glyphs: ab, Kerns: []api.Kern{k('a', 'b', -6)}}, {Glyphs: ab, Kerns: []api.Kern{k('a', 'b', 1001)}},
		{Glyphs: ab, Kerns: []api.Kern{k('a', 'b', 1), k('a', 'b', 1)}}, {Glyphs: ab, Kerns: []api.Kern{k('b', 'a', 1), k('a', 'b', 1)}},
		{Glyphs: ab, Kerns: []api.Kern{k('a', 'b', 1), k('a', 'a', 1)}},
	} {
		_, e1 := Has(f, "")
		_, e2 := Raw(f, "")
		if _, e3 := Width(f, "", 100); Valid(f) || e1 != api.ErrArg || e2 != api.ErrArg || e3 != api.ErrArg {
			t.Errorf("font %d is valid", i)
		}
	}
	full := api.Font{}
	for b := byte(32); b <= 125; b++ {
		full.Glyphs = append(full.Glyphs, g(b, 1000))
	}
	for i := range 201 {
		full.Kerns = append(full.Kerns, k(byte(32+i/94), byte(32+i%94), -1000))
	}
	if Valid(full) {
		t.Error("201 kerns are valid")
	}
	full.Kerns = full.Kerns[:200]
	if !Valid(full) || !Valid(api.Font{}) || !Valid(api.Font{Glyphs: ab, Kerns: []api.Kern{k('a', 'b', -5)}}) {
		t.Error("a font at its limits is not valid")
	}
}

func TestErrors(t *testing.T) {
	f := example()
	if ok, e := Has(f, "ab~"); !ok || e != api.OK {
		t.Error("the font has not its text")
	}
	if ok, e := Has(f, "abc"); ok || e != api.OK {
		t.Error("the font has another text")
	}
	if _, e := Raw(f, "c"); e != api.ErrGlyph {
		t.Error(e)
	}
	for scale, want := range map[int]api.Errno{49: api.ErrArg, 301: api.ErrArg, 50: api.ErrGlyph, 300: api.ErrGlyph} {
		if w, e := Width(f, "c", scale); e != want || w != 0 {
			t.Error(scale, e)
		}
	}
	if _, e := Width(f, "\n", 100); e != api.ErrArg {
		t.Error(e)
	}
}
