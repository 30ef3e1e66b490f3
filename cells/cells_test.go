package cells

import (
	"reflect"
	"slices"
	"testing"

	"forme/api"
	"forme/layout"
	"forme/quot"
	"forme/sample"
	"forme/shapes"
	"forme/zone"
)

func readers(t *testing.T, l []api.Zone) []api.Reader {
	t.Helper()
	canon, e := zone.Canon(l)
	if e != api.OK {
		t.Fatal(e)
	}
	var out []api.Reader
	for row := range shapes.Rows(canon) {
		for w := row.Width.Lo; w <= row.Width.Hi; w++ {
			out = append(out, api.Reader{Width: w, Scale: row.Scale, Lang: row.Lang})
		}
	}
	return out
}

func same(a, b []api.Box) bool { return len(a) == len(b) && (len(a) == 0 || reflect.DeepEqual(a, b)) }

func build(t *testing.T, d api.Doc, l ...api.Zone) api.Map {
	t.Helper()
	m, e := Build(d, l)
	if e != api.OK || !Valid(m) {
		t.Fatal(e, Valid(m))
	}
	return m
}

func constant(n int) api.Quot { return api.Quot{B: n, D: 1} }

func TestExamples(t *testing.T) {
	z := sample.Zone(0, 100, 100, 200, 203)
	for i, x := range []struct {
		rules string
		want  []api.Cell
	}{
		{"", []api.Cell{{Scale: 100, From: 200, Until: 204, Shapes: []api.Shape{{Node: 1, X: constant(0), Y: constant(0), W: api.Quot{A: 1, B: 200, D: 1}, H: constant(0)}}}}},
		{"rule 0 * { width: 50%; }", []api.Cell{{Scale: 100, From: 200, Until: 204, Shapes: []api.Shape{{Node: 1, X: constant(0), Y: constant(0), W: api.Quot{A: 1, B: 200, D: 2}, H: constant(0)}}}}},
		{"rule 0 * { width: 100%; } rule 1 * when width < 202 { width: 50; }", []api.Cell{
			{Scale: 100, From: 200, Until: 202, Shapes: []api.Shape{{Node: 1, X: constant(0), Y: constant(0), W: constant(50), H: constant(0)}}},
			{Scale: 100, From: 202, Until: 204, Shapes: []api.Shape{{Node: 1, X: constant(0), Y: constant(0), W: api.Quot{A: 1, B: 202, D: 1}, H: constant(0)}}}}},
		{"rule 0 * when width >= 202 { pad: 1000000 * 1000 * 2; hide: 1; } rule 0 * { hide: 1; }", []api.Cell{{Scale: 100, From: 200, Until: 202}, {Scale: 100, From: 202, Until: 204, E: api.ErrRange}}},
	} {
		m := build(t, sample.Doc(x.rules, sample.Root()), z)
		if !reflect.DeepEqual(m.Cells, x.want) || !slices.Equal(m.Zones, []api.Zone{z}) {
			t.Errorf("case %d: %v", i, m)
		}
	}
}

func TestMaps(t *testing.T) {
	for seed := range 150 {
		dice := sample.Roll(seed)
		d := sample.Random(dice)
		l := []api.Zone{sample.Zone(0, 98, 100, 200, 225), sample.Zone(1, 100, 100, 205, 210), sample.Zone(0, 99, 99, 300, 303)}
		m := build(t, d, l...)
		at := 0
		for _, r := range readers(t, l) {
			want, e := layout.Lay(d, r, nil)
			got, e2 := At(m, r)
			if e != e2 || !same(want, got) {
				t.Fatalf("seed %d, %v: %v, %v; want %v, %v", seed, r, got, e2, want, e)
			}
			if r.Width >= m.Cells[at].Until || r.Scale != m.Cells[at].Scale || r.Lang != m.Cells[at].Lang {
				at++
			}
			if c := m.Cells[at]; c.Lang != r.Lang || c.Scale != r.Scale || r.Width < c.From || r.Width >= c.Until {
				t.Fatalf("%v is not in cell %d", r, at)
			}
		}
		for _, r := range []api.Reader{{Width: 204, Scale: 100, Lang: 1}, {Width: 300, Scale: 100}, {Width: 200, Scale: 101}} {
			if got, e := At(m, r); e != api.ErrNone || got != nil {
				t.Fatal(r, e)
			}
		}
		few := build(t, d, sample.Zone(0, 99, 99, 203, 214))
		for _, r := range readers(t, few.Zones) {
			a, e := At(m, r)
			if b, e2 := At(few, r); e != e2 || !same(a, b) {
				t.Fatal("fewer readers get something else")
			}
		}
		checkLongest(t, m)
		checkChanged(t, dice, m)
	}
}

// checkLongest tries to let each cell have a reader more.
func checkLongest(t *testing.T, m api.Map) {
	t.Helper()
	for i, c := range m.Cells {
		if i+1 == len(m.Cells) || m.Cells[i+1].Lang != c.Lang || m.Cells[i+1].Scale != c.Scale || m.Cells[i+1].From != c.Until {
			continue
		}
		next := m.Cells[i+1]
		if c.E != next.E || c.E != api.OK {
			if c.E == next.E {
				t.Fatal("the same error in two cells")
			}
			continue
		}
		var lists [][]int
		for w := c.From; w <= c.Until; w++ {
			cell := c
			if w == c.Until {
				cell = next
			}
			n := 0
			each(shapes.Boxes(cell, w), func(v int) {
				if n == len(lists) {
					lists = append(lists, nil)
				}
				lists[n] = append(lists[n], v)
				n++
			})
		}
		fits := slices.EqualFunc(shapes.Boxes(c, c.From), shapes.Boxes(next, c.Until), alike)
		for _, l := range lists {
			_, ok, _ := quot.Fit(l)
			fits = fits && ok
		}
		if fits {
			t.Fatalf("cell %d could be longer", i)
		}
	}
}

// checkChanged changes a map in some place.
func checkChanged(t *testing.T, dice *sample.Dice, m api.Map) {
	t.Helper()
	change := func(do func(c *api.Cell)) {
		other := api.Map{Zones: m.Zones, Cells: slices.Clone(m.Cells)}
		c := &other.Cells[dice.N(len(other.Cells))]
		c.Shapes = slices.Clone(c.Shapes)
		do(c)
		if reflect.DeepEqual(other, m) {
			return
		}
		if Valid(other) {
			t.Fatal("a changed map is well-formed")
		}
	}
	change(func(c *api.Cell) { c.From++ })
	change(func(c *api.Cell) { c.Until++ })
	change(func(c *api.Cell) { c.Scale++ })
	change(func(c *api.Cell) {
		if len(c.Shapes) > 0 {
			q := &c.Shapes[0].W
			q.A, q.B, q.D = 2*q.A, 2*q.B, 2*q.D
		}
	})
	change(func(c *api.Cell) {
		if len(c.Shapes) > 0 {
			c.E = api.ErrFit
		}
	})
	change(func(c *api.Cell) {
		if len(c.Shapes) > 0 {
			c.Shapes[0].Node = 0
		}
	})
	cut := api.Map{Zones: m.Zones, Cells: m.Cells[1:]}
	if _, e := At(cut, api.Reader{Width: 200, Scale: 100}); e != api.ErrArg || Valid(cut) {
		t.Fatal("a map without a cell is in order")
	}
}

func TestMade(t *testing.T) {
	for seed := range 200 {
		dice := sample.Roll(seed)
		l := []api.Zone{sample.Zone(2, 100, 101, 200, 212), sample.Zone(0, 70, 70, 500, 509)}
		all := readers(t, l)
		var pages [][]api.Box
		var errors []api.Errno
		for range all {
			var page []api.Box
			e := api.OK
			switch dice.N(10) {
			case 0:
				e = api.ErrFit
			default:
				if len(pages) > 0 && dice.N(4) > 0 {
					page = pages[len(pages)-1]
					e = errors[len(pages)-1]
					break
				}
				for i := range dice.N(3) {
					b := api.Box{Node: 1 + i, X: dice.N(5), Y: -dice.N(9), W: dice.N(4), H: api.MaxCoord - dice.N(2), Cut: dice.N(5) == 0}
					if dice.N(3) == 0 {
						b.Lines = []api.Seen{{Text: dice.Pick("a", "b"), X: dice.N(4)}}
					}
					page = append(page, b)
				}
			}
			pages, errors = append(pages, page), append(errors, e)
		}
		m, e := Make(l, pages, errors)
		if e != api.OK || !Valid(m) {
			t.Fatal(e)
		}
		for i, r := range all {
			if got, e := At(m, r); e != errors[i] || !same(got, pages[i]) {
				t.Fatalf("%v gets %v, %v; want %v, %v", r, got, e, pages[i], errors[i])
			}
		}
		checkLongest(t, m)
	}
}

func TestErrors(t *testing.T) {
	root := sample.Root()
	d := sample.Doc("", root)
	good := []api.Zone{sample.Zone(0, 100, 100, 200, 200)}
	bad := []api.Zone{sample.Zone(0, 100, 99, 200, 200)}
	if m, e := Build(api.Doc{}, good); e != api.ErrArg || m.Cells != nil {
		t.Error(e)
	}
	if _, e := Build(d, bad); e != api.ErrArg {
		t.Error(e)
	}
	if m, e := Build(d, nil); e != 0 || !Valid(m) || len(m.Cells) != 0 {
		t.Error(e)
	}
	var many []api.Zone
	for i := range 600 {
		many = append(many, sample.Zone(0, 50, 300, 200+2*i, 200+2*i))
	}
	many = append(many, sample.Zone(0, 100, 100, 3000, 3000))
	if _, e := Build(d, many); e != api.ErrLimit {
		t.Error(e)
	}
	if _, e := Make(many, nil, nil); e != api.ErrLimit {
		t.Error(e)
	}
	if m, e := Build(d, many[:261]); e != 0 || len(m.Cells) != 65511 {
		t.Error(len(m.Cells), e)
	}
	if m, e := Build(d, many[:262]); e != api.ErrLimit || m.Zones != nil {
		t.Error(e)
	}
	box := api.Box{Node: 1}
	far, low, unread := box, box, box
	far.X = api.MaxCoord + 1
	low.Node = 0
	unread.Lines = []api.Seen{{Text: "\n"}}
	for i, x := range []struct {
		l      []api.Zone
		pages  [][]api.Box
		errors []api.Errno
		want   api.Errno
	}{
		{bad, [][]api.Box{nil}, []api.Errno{0}, api.ErrArg}, {good, nil, []api.Errno{0}, api.ErrArg}, {good, [][]api.Box{nil}, nil, api.ErrArg},
		{good, [][]api.Box{nil, nil}, []api.Errno{0, 0}, api.ErrArg}, {good, [][]api.Box{{box}}, []api.Errno{3}, api.ErrArg}, {good, [][]api.Box{{far}}, []api.Errno{0}, api.ErrArg},
		{good, [][]api.Box{{low}}, []api.Errno{0}, api.ErrArg}, {good, [][]api.Box{{unread}}, []api.Errno{0}, api.ErrArg}, {good, [][]api.Box{make([]api.Box, 4001)}, []api.Errno{0}, api.ErrArg},
		{good, [][]api.Box{{box, box}}, []api.Errno{0}, api.OK}, {good, [][]api.Box{nil}, []api.Errno{3}, api.OK},
	} {
		if m, e := Make(x.l, x.pages, x.errors); e != x.want || (e != 0 && (m.Zones != nil || m.Cells != nil)) {
			t.Errorf("case %d: %v", i, e)
		}
	}
	m := build(t, d, good...)
	if _, e := At(m, api.Reader{}); e != api.ErrArg {
		t.Error(e)
	}
	m.Zones = append(m.Zones, m.Zones[0])
	if _, e := At(m, sample.Reader(200, 100)); e != api.ErrArg || Valid(m) {
		t.Error(e)
	}
	quots := build(t, d, good...)
	quots.Cells[0].Shapes[0].H = api.Quot{A: 5, D: 1}
	if b, e := At(quots, sample.Reader(200, 100)); e != 0 || b[0].H != 0 || Valid(quots) {
		t.Error("a map in order that is not well-formed", e)
	}
}
