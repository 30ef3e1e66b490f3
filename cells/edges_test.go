package cells

import (
	"slices"
	"testing"

	"forme/api"
	"forme/clone"
	"forme/sample"
)

func TestGreatest(t *testing.T) {
	const most = api.MaxCoord
	z := []api.Zone{sample.Zone(0, 100, 100, 200, 201)}
	line := api.Seen{Text: "a", X: -most, Y: most, W: -most, H: most}
	box := api.Box{Node: 1000000, X: most, Y: -most, W: most, H: -most, Lines: slices.Repeat([]api.Seen{line}, 2000)}
	m, e := Make(z, [][]api.Box{{box}, {box}}, []api.Errno{0, 0})
	if e != 0 || len(m.Cells) != 1 || !Valid(m) {
		t.Fatal(e)
	}
	if got, e := At(m, sample.Reader(201, 100)); e != 0 || !same(got, []api.Box{box}) {
		t.Error(e)
	}
	full := slices.Repeat([]api.Box{{Node: 1}}, 4000)
	m, e = Make(z, [][]api.Box{full, nil}, []api.Errno{0, 0})
	if e != 0 || len(m.Cells) != 2 || !Valid(m) {
		t.Error(e)
	}
	for i, change := range []func(b *api.Box){
		func(b *api.Box) { b.Node = 0 }, func(b *api.Box) { b.Node = 1000001 }, func(b *api.Box) { b.Lines = append(b.Lines, line) }, func(b *api.Box) { b.X = most + 1 }, func(b *api.Box) { b.Y = -most - 1 },
		func(b *api.Box) { b.W = most + 1 }, func(b *api.Box) { b.H = -most - 1 }, func(b *api.Box) { b.Lines[1999].X-- }, func(b *api.Box) { b.Lines[7].H++ }, func(b *api.Box) { b.Lines[7].Text = "\n" },
	} {
		b := box
		b.Lines = slices.Clone(box.Lines)
		change(&b)
		if m, e := Make(z, [][]api.Box{{box}, {b}}, []api.Errno{0, 0}); e != api.ErrArg || m.Zones != nil {
			t.Errorf("case %d: %v", i, e)
		}
	}
}

// TestOrder looks at maps that are not in order in one place.
func TestOrder(t *testing.T) {
	d := sample.Doc("rule 0 * when width < 202 { pad: 1; } rule 1 * when lang 1 { hide: 1; }", sample.Root(), sample.Node(2, 1, api.KindText, 0, "ab"))
	m := build(t, d, sample.Zone(0, 100, 101, 200, 203), sample.Zone(1, 100, 100, 200, 203))
	if len(m.Cells) != 5 {
		t.Fatal(len(m.Cells))
	}
	quot := func(a, b, d int) api.Quot { return api.Quot{A: a, B: b, D: d} }
	for i, x := range []struct {
		change func(m *api.Map)
		order  bool
	}{
		{func(m *api.Map) { m.Cells[0].Lang = 1 }, false}, {func(m *api.Map) { m.Cells[0].Scale = 101 }, false}, {func(m *api.Map) { m.Cells[0].From = 201 }, false}, {func(m *api.Map) { m.Cells[0].Until = 203 }, false},
		{func(m *api.Map) { m.Cells[0].Until = 200 }, false}, {func(m *api.Map) { m.Cells[1].Until = 205 }, false}, {func(m *api.Map) { m.Cells[1].Until = 203 }, false}, {func(m *api.Map) { m.Cells = m.Cells[:4] }, false},
		{func(m *api.Map) { m.Cells = append(m.Cells, m.Cells[4]) }, false}, {func(m *api.Map) { m.Zones = m.Zones[:1] }, false}, {func(m *api.Map) { m.Zones[0], m.Zones[1] = m.Zones[1], m.Zones[0] }, false}, {func(m *api.Map) { m.Zones[0].Lang = 9 }, false},
		{func(m *api.Map) { m.Cells[0].E = 5 }, false}, {func(m *api.Map) { m.Cells[0].E, m.Cells[0].Shapes = 5, nil }, true}, {func(m *api.Map) { m.Cells[0].Shapes[0].Node = 0 }, false}, {func(m *api.Map) { m.Cells[0].Shapes[0].Node = 1000001 }, false},
		{func(m *api.Map) { m.Cells[0].Shapes[0].Node = 1000000 }, true}, {func(m *api.Map) { m.Cells[0].Shapes[0].X.D = 0 }, false}, {func(m *api.Map) { m.Cells[0].Shapes[0].Y = quot(1, api.MaxCoord, 1) }, false},
		{func(m *api.Map) { m.Cells[0].Shapes[0].H = quot(1, api.MaxCoord-1, 1) }, true}, {func(m *api.Map) { m.Cells[0].Shapes[0].W = quot(-1, -api.MaxCoord, 1) }, false}, {func(m *api.Map) { m.Cells[0].Shapes[1].Lines[0].X.D = 17 }, false},
		{func(m *api.Map) { m.Cells[0].Shapes[1].Lines[0].H = quot(1, api.MaxCoord, 1) }, false}, {func(m *api.Map) { m.Cells[0].Shapes[1].Lines[0].Text = "\n" }, false}, {func(m *api.Map) { m.Cells[0].Shapes[1].Lines[0].Text = "zz" }, true},
		{func(m *api.Map) { m.Cells[0].Shapes[0].Lines = make([]api.SeenAt, 2001) }, false}, {func(m *api.Map) { m.Cells[4].Shapes = make([]api.Shape, 4001) }, false}, {func(m *api.Map) { m.Cells[0].Shapes[0].X = quot(0, 0, 2) }, true},
	} {
		c := clone.Map(m)
		x.change(&c)
		_, e := At(c, sample.Reader(203, 100))
		if (e == api.OK) != x.order || !x.order && (e != api.ErrArg || Valid(c)) {
			t.Errorf("case %d: %v", i, e)
		}
	}
	if _, e := At(m, api.Reader{Width: 199, Scale: 100}); e != api.ErrArg {
		t.Error(e)
	}
	if _, e := At(m, api.Reader{Width: 204, Scale: 100}); e != api.ErrNone {
		t.Error(e)
	}
}

// TestMostCells builds a map of just as many cells as there may be, and of one more.
func TestMostCells(t *testing.T) {
	d := sample.Doc("", sample.Root())
	var z []api.Zone
	for i := range 261 {
		z = append(z, sample.Zone(0, 50, 300, 200+2*i, 200+2*i))
	}
	for scales, want := range map[int]api.Errno{25: 0, 26: api.ErrLimit} {
		m, e := Build(d, append(z, sample.Zone(1, 50, 49+scales, 200, 200)))
		if e != want || e == 0 && (len(m.Cells) != api.MaxCells || !Valid(m)) || e != 0 && m.Zones != nil {
			t.Error(scales, len(m.Cells), e)
		}
	}
}
