package wrap

import (
	"reflect"
	"slices"
	"testing"

	"forme/api"
	"forme/floats"
	"forme/inline"
	"forme/sample"
	"forme/text"
)

func rules() api.Breaks { return api.Breaks{Before: 1, Behind: 1} }

func set(t *testing.T, s string, scale, line, width, y int, l []api.Float) ([]api.Seen, int) {
	t.Helper()
	seen, end, e := Lines(sample.Font(), rules(), s, scale, line, 0, 0, width, y, l)
	if e != api.OK {
		t.Fatal(e)
	}
	return seen, end
}

func words(d *sample.Dice) string {
	s := ""
	for range d.N(30) {
		s += d.Pick("a", "b", "cd", "~", " ", " ", "-", "E", "1")
	}
	return s
}

func someFloats(t *testing.T, d *sample.Dice, width, low int) []api.Float {
	t.Helper()
	var l []api.Float
	for range d.N(6) {
		var e api.Errno
		if l, e = floats.Place(l, width, 1+d.N(2), low+d.N(40), d.N(90), d.N(40)); e != 0 {
			t.Fatal(e)
		}
	}
	return l
}

func TestExample(t *testing.T) {
	l, end := set(t, "ab cd ef", 100, 12, 50, 0, []api.Float{{Side: 1, W: 30, H: 20}})
	want := []api.Seen{{Text: "ab", X: 30, Y: 0, W: 20, H: 12}, {Text: "cd", X: 30, Y: 12, W: 20, H: 12}, {Text: "ef", X: 0, Y: 24, W: 20, H: 12}}
	if !slices.Equal(l, want) || end != 36 {
		t.Error(l, end)
	}
	l, end = set(t, "ab cd ef", 100, 12, 50, 0, []api.Float{{Side: 1, W: 45, H: 20}})
	want = []api.Seen{{Text: "ab cd", X: 0, Y: 20, W: 50, H: 12}, {Text: "ef", X: 0, Y: 32, W: 20, H: 12}}
	if !slices.Equal(l, want) || end != 44 {
		t.Error(l, end)
	}
	for _, s := range []string{"", "  ", "~"} {
		if l, end := set(t, s, 100, 12, 50, 7, nil); len(l) != 0 || end != 7 {
			t.Error(l, end)
		}
	}
}

func TestNoFloats(t *testing.T) {
	for seed := range 300 {
		d := sample.Roll(seed)
		s, width, line, y, align, dir := words(d), d.N(120), d.N(20), d.N(100), d.N(3), d.N(2)
		want, _ := inline.Lines(sample.Font(), rules(), s, 100, []int{width})
		l, end, e := Lines(sample.Font(), rules(), s, 100, line, align, dir, width, y, nil)
		if e != 0 || len(l) != len(want) || end != y+line*len(l) {
			t.Fatalf("%q: %v, %d, %v", s, l, end, e)
		}
		for i, x := range l {
			text, at, _ := inline.Place(sample.Font(), s, want[i], 100, width, align, dir)
			if x != (api.Seen{Text: text, X: at, Y: y + i*line, W: want[i].Width, H: line}) {
				t.Fatalf("%q: %v", s, x)
			}
		}
	}
}

func beside(l []api.Float, y, h int) bool {
	return slices.ContainsFunc(l, func(f api.Float) bool { return f.H > 0 && f.Y < y+max(h, 1) && f.Y+f.H > y })
}

func letters(s string) (n int) {
	for i := range len(s) {
		if c := text.Class(s[i]); c >= 1 && c <= 3 {
			n++
		}
	}
	return n
}

func TestBesideFloats(t *testing.T) {
	f := sample.Font()
	for seed := range 1500 {
		d := sample.Roll(seed)
		s, width, line, y := words(d), 20+d.N(120), 1+d.N(20), d.N(30)
		l := someFloats(t, d, width, 0)
		seen, end := set(t, s, 100, line, width, y, l)
		from, at, all := 0, y, ""
		for _, x := range seen {
			room, _ := floats.Room(l, width, x.Y, line)
			if x.W <= room.Hi-room.Lo && (x.X < room.Lo || x.X+x.W > room.Hi) || x.W > room.Hi-room.Lo && beside(l, x.Y, line) {
				t.Fatalf("%q: %v in %v", s, x, room)
			}
			for h := at; h < x.Y; h++ {
				room, _ := floats.Room(l, width, h, line)
				if n, _ := inline.Next(f, rules(), s, from, 100, room.Hi-room.Lo); n.Width <= room.Hi-room.Lo {
					t.Fatalf("%q: %v would fit at %d", s, x, h)
				}
			}
			next, _ := inline.Next(f, rules(), s, from, 100, room.Hi-room.Lo)
			from, at = next.Until, x.Y+line
			all += x.Text
		}
		if end != at || letters(all) != letters(s) {
			t.Fatalf("%q: %v, %d", s, seen, end)
		}
		if len(seen) > 0 {
			more := append(slices.Clone(l), api.Float{Side: 1, Y: end, W: 50, H: 9})
			if y > 0 {
				more = append(more, api.Float{Side: 2, Y: y - 1, W: 50, H: 1})
			}
			if other, e := set(t, s, 100, line, width, y, more); !slices.Equal(other, seen) || e != end {
				t.Fatal("floats above and below play a part")
			}
		}
		for i := range l {
			l[i].Y += 13
		}
		moved, far := set(t, s, 100, line, width, y+13, l)
		for i := range moved {
			moved[i].Y -= 13
		}
		if !slices.Equal(moved, seen) || far != end+13 {
			t.Fatal("moving")
		}
	}
}

func TestErrors(t *testing.T) {
	f, b := sample.Font(), rules()
	none := api.Font{}
	far := []api.Float{{Side: 1, W: 50, Y: api.MaxCoord - 5, H: 1000}}
	type call struct {
		f                                 api.Font
		b                                 api.Breaks
		s                                 string
		scale, line, align, dir, width, y int
		l                                 []api.Float
		want                              api.Errno
	}
	for i, x := range []call{
		{f, b, "ab", 100, 10, 0, 0, 50, 0, nil, api.OK},
		{api.Font{Kerns: make([]api.Kern, 1)}, b, "", 100, 10, 0, 0, 50, 0, nil, api.ErrArg},
		{f, api.Breaks{}, "", 100, 10, 0, 0, 50, 0, nil, api.ErrArg},
		{f, b, "\n", 100, 10, 0, 0, 50, 0, nil, api.ErrArg},
		{f, b, "", 49, 10, 0, 0, 50, 0, nil, api.ErrArg},
		{f, b, "", 100, -1, 0, 0, 50, 0, nil, api.ErrArg},
		{f, b, "", 100, 1000001, 0, 0, 50, 0, nil, api.ErrArg},
		{f, b, "", 100, 10, 3, 0, 50, 0, nil, api.ErrArg},
		{f, b, "", 100, 10, 0, 2, 50, 0, nil, api.ErrArg},
		{f, b, "", 100, 10, 0, 0, -1, 0, nil, api.ErrArg},
		{f, b, "", 100, 10, 0, 0, 50, -1, nil, api.ErrArg},
		{f, b, "", 100, 10, 0, 0, 50, api.MaxCoord + 1, nil, api.ErrArg},
		{f, b, "", 100, 10, 0, 0, 50, 0, make([]api.Float, 1), api.ErrArg},
		{none, b, "", 100, 10, 0, 0, 50, 0, nil, api.OK},
		{none, b, " ", 100, 10, 0, 0, 50, 0, nil, api.ErrGlyph},
		{f, b, "ab", 100, 10, 0, 0, 50, api.MaxCoord, nil, api.ErrRange},
		{f, b, "ab", 100, 10, 0, 0, 50, api.MaxCoord - 10, nil, api.OK},
		{f, b, "ab cd", 100, 10, 0, 0, 20, api.MaxCoord - 10, nil, api.ErrRange},
		{f, b, "ab", 100, 1, 0, 0, 50, api.MaxCoord - 5, far, api.ErrRange},
		{f, b, "", 100, 10, 0, 0, 50, api.MaxCoord, nil, api.OK},
		{f, b, "ab", 100, 0, 0, 0, 50, api.MaxCoord, nil, api.OK},
	} {
		l, end, e := Lines(x.f, x.b, x.s, x.scale, x.line, x.align, x.dir, x.width, x.y, x.l)
		if e != x.want || (e != 0 && (l != nil || end != 0)) {
			t.Errorf("case %d: %v", i, e)
		}
	}
}

func TestUnchanged(t *testing.T) {
	l := []api.Float{{Side: 1, W: 30, H: 20}}
	before := slices.Clone(l)
	set(t, "ab cd ef", 100, 12, 50, 0, l)
	if !reflect.DeepEqual(l, before) {
		t.Error("floats were changed")
	}
}
