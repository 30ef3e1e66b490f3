package inline

import (
	"slices"
	"strings"
	"testing"

	"forme/api"
	"forme/bidi"
	"forme/breaks"
	"forme/font"
	"forme/lines"
	"forme/sample"
	"forme/text"
)

func rules() api.Breaks { return api.Breaks{Before: 1, Behind: 1} }

func random(d *sample.Dice) (api.Font, string) {
	f := sample.Font()
	for i := range f.Glyphs {
		f.Glyphs[i].Advance = d.N(12)
	}
	for _, l := range "abe" {
		for _, r := range "-abe" {
			if a := f.Glyphs[l-32].Advance; d.N(2) == 0 {
				f.Kerns = append(f.Kerns, api.Kern{Left: byte(l), Right: byte(r), By: d.N(20) - a})
			}
		}
	}
	s := ""
	for range d.N(25) {
		s += d.Pick("a", "b", "e", "~", " ", "-", "C", "1")
	}
	return f, s
}

// slowNext tries all ends.
func slowNext(t *testing.T, f api.Font, b api.Breaks, s string, from, scale, room int) api.Line {
	t.Helper()
	places, _ := breaks.List(b, s)
	var least, best api.Line
	for _, p := range append(places, api.Break{At: len(s)}) {
		if p.At <= from {
			continue
		}
		l := api.Line{From: from, Until: p.At, Hyphen: p.Hyphen}
		w, e := font.Width(f, lines.Seen(s, l), scale)
		if e != 0 {
			t.Fatal(e)
		}
		l.Width = w
		if least.Until == 0 {
			least = l
		}
		if w <= room {
			best = l
		}
	}
	if best.Until == 0 {
		return least
	}
	return best
}

func TestExamples(t *testing.T) {
	f := sample.Font()
	for _, x := range []struct {
		s    string
		room int
		want []api.Line
	}{
		{"ab cd ef", 50, []api.Line{{From: 0, Until: 6, Width: 50}, {From: 6, Until: 8, Width: 20}}},
		{"ab cd ef", 40, []api.Line{{From: 0, Until: 3, Width: 20}, {From: 3, Until: 6, Width: 20}, {From: 6, Until: 8, Width: 20}}},
		{"ab~cd", 30, []api.Line{{From: 0, Until: 3, Width: 30, Hyphen: true}, {From: 3, Until: 5, Width: 20}}},
		{"ab~cd", 40, []api.Line{{From: 0, Until: 5, Width: 40}}},
		{"  ", 40, nil},
		{"", 40, nil},
		{"~ ~", 40, nil},
		{"ab  ", 0, []api.Line{{From: 0, Until: 4, Width: 20}}},
	} {
		if l, e := Lines(f, rules(), x.s, 100, []int{x.room}); e != 0 || !slices.Equal(l, x.want) {
			t.Errorf("%q in %d: %v, %v", x.s, x.room, l, e)
		}
	}
	if l, _ := Lines(f, rules(), "ab cd ef gh", 100, []int{20, 50}); len(l) != 3 || l[0].Until != 3 || l[1].Until != 9 {
		t.Error(l)
	}
}

func TestLines(t *testing.T) {
	for seed := range 1500 {
		d := sample.Roll(seed)
		f, s := random(d)
		b := api.Breaks{Before: 1 + d.N(2), Behind: 1 + d.N(2), Keep: []string{"ab"}}
		scale := 50 + d.N(200)
		rooms := []int{d.N(60), d.N(100), d.N(80)}
		l, e := Lines(f, b, s, scale, rooms)
		if e != 0 {
			t.Fatal(e)
		}
		at := 0
		for i, x := range l {
			room := rooms[min(i, 2)]
			if x.From != at || x != slowNext(t, f, b, s, at, scale, room) {
				t.Fatalf("%q: line %d is %v in %d", s, i, x, room)
			}
			next, e := Next(f, b, s, at, scale, room)
			if wider, _ := Next(f, b, s, at, scale, room+d.N(50)); e != 0 || next != x || wider.Until < x.Until {
				t.Fatalf("%q: next is %v, %v, and %v", s, next, e, wider)
			}
			at = x.Until
		}
		if n, _ := text.Words(s[at:]); n != 0 {
			t.Fatalf("%q: there are words after %v", s, l)
		}
		shown, _ := text.Shown(s)
		seen, _ := text.Trim(shown)
		if w, _ := font.Width(f, seen, scale); w <= rooms[0] {
			words, _ := text.Words(s)
			if len(l) != min(words, 1) {
				t.Fatalf("%q fits, and has the lines %v", s, l)
			}
		}
		if len(s) > 0 {
			from := d.N(len(s))
			if got, _ := Next(f, b, s, from, scale, rooms[0]); got != slowNext(t, f, b, s, from, scale, rooms[0]) {
				t.Fatalf("%q from %d: %v", s, from, got)
			}
		}
	}
}

func TestPlace(t *testing.T) {
	f := sample.Font()
	line := api.Line{From: 0, Until: 6, Width: 50}
	for i, x := range []struct{ room, align, dir, want int }{
		{95, 0, 0, 0}, {95, 1, 0, 45}, {95, 2, 0, 22}, {95, 0, 1, 45}, {95, 1, 1, 0}, {95, 2, 1, 22}, {45, 2, 0, -3}, {45, 1, 0, -5},
	} {
		seen, at, e := Place(f, "ab CD ef", line, 100, x.room, x.align, x.dir)
		want, _ := bidi.Visual("ab CD", x.dir)
		if seen != want || at != x.want || e != 0 {
			t.Errorf("case %d: %q, %d, %v", i, seen, at, e)
		}
		if x.room >= line.Width && (at < 0 || at+line.Width > x.room) {
			t.Errorf("case %d is not in its room", i)
		}
	}
	if seen, _, e := Place(f, "ab~cd", api.Line{Until: 3, Width: 30, Hyphen: true}, 100, 50, 0, 0); seen != "ab-" || e != 0 {
		t.Error(seen, e)
	}
}

func TestErrors(t *testing.T) {
	f, b := sample.Font(), rules()
	bad := sample.Font()
	bad.Glyphs[0].Advance = -1
	none := api.Font{}
	noDash := sample.Font()
	noDash.Glyphs = slices.DeleteFunc(noDash.Glyphs, func(g api.Glyph) bool { return g.Byte == '-' })
	for i, x := range []struct {
		f                 api.Font
		b                 api.Breaks
		s                 string
		from, scale, room int
		want              api.Errno
	}{
		{f, b, "ab", 0, 100, 0, api.OK}, {f, b, "ab", 1, 100, api.MaxCoord, api.OK},
		{bad, b, "ab", 0, 100, 0, api.ErrArg}, {f, api.Breaks{}, "ab", 0, 100, 0, api.ErrArg}, {f, b, "a\n", 0, 100, 0, api.ErrArg},
		{f, b, "ab", 0, 49, 0, api.ErrArg}, {f, b, "ab", 0, 301, 0, api.ErrArg}, {f, b, "ab", 0, 100, -1, api.ErrArg},
		{f, b, "ab", 0, 100, api.MaxCoord + 1, api.ErrArg}, {none, b, "ab", 0, 100, 0, api.ErrGlyph}, {noDash, b, "a~b", 0, 100, 0, api.ErrGlyph},
		{noDash, b, "a~ b", 0, 100, 0, api.OK}, {noDash, b, "a~b", 9, 100, 0, api.ErrArg},
		{f, b, "ab", 2, 100, 0, api.ErrArg}, {f, b, "ab", -1, 100, 0, api.ErrArg}, {f, b, "", 0, 100, 0, api.ErrArg},
	} {
		if l, e := Next(x.f, x.b, x.s, x.from, x.scale, x.room); e != x.want || (e != 0 && l != api.Line{}) {
			t.Errorf("next %d: %v", i, e)
		}
		if x.from == 0 && x.s != "" {
			if l, e := Lines(x.f, x.b, x.s, x.scale, []int{5, x.room}); e != x.want || (e != 0 && l != nil) {
				t.Errorf("lines %d: %v", i, e)
			}
		}
	}
	if _, e := Lines(f, b, "ab", 100, nil); e != api.ErrArg {
		t.Error(e)
	}
	good := api.Line{Until: 2, Width: 20}
	long := strings.Repeat("a", 2000)
	for i, x := range []struct {
		f                       api.Font
		s                       string
		l                       api.Line
		scale, room, align, dir int
		want                    api.Errno
	}{
		{f, "ab", good, 100, 0, 0, 0, api.OK},
		{bad, "ab", good, 100, 0, 0, 0, api.ErrArg}, {f, "a\n", good, 100, 0, 0, 0, api.ErrArg}, {f, "ab", good, 10, 0, 0, 0, api.ErrArg},
		{f, "ab", good, 100, -1, 0, 0, api.ErrArg}, {f, "ab", good, 100, 0, 3, 0, api.ErrArg}, {f, "ab", good, 100, 0, -1, 0, api.ErrArg},
		{f, "ab", good, 100, 0, 0, 2, api.ErrArg}, {f, "ab", api.Line{From: 2, Until: 2}, 100, 0, 0, 0, api.ErrArg},
		{f, "ab", api.Line{From: -1, Until: 2}, 100, 0, 0, 0, api.ErrArg}, {f, "ab", api.Line{From: 0, Until: 3}, 100, 0, 0, 0, api.ErrArg},
		{f, "ab", api.Line{Until: 2, Width: 21}, 100, 0, 0, 0, api.ErrArg}, {none, "ab", good, 100, 0, 0, 0, api.ErrGlyph},
		{none, long, api.Line{Until: 2000, Hyphen: true}, 100, 0, 0, 0, api.ErrArg},
	} {
		if s, at, e := Place(x.f, x.s, x.l, x.scale, x.room, x.align, x.dir); e != x.want || (e != 0 && (s != "" || at != 0)) {
			t.Errorf("place %d: %v", i, e)
		}
	}
}
