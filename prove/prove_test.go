package prove

import (
	"slices"
	"testing"

	"forme/api"
	"forme/cells"
	"forme/claim"
	"forme/sample"
	"forme/shapes"
	"forme/zone"
)

func parse(t *testing.T, s string) api.Claim {
	t.Helper()
	c, e := claim.Parse(s)
	if e != api.OK {
		t.Fatal(e)
	}
	return c
}

func build(t *testing.T, d api.Doc, l ...api.Zone) api.Map {
	t.Helper()
	m, e := cells.Build(d, l)
	if e != api.OK {
		t.Fatal(e)
	}
	return m
}

func example(t *testing.T) api.Map {
	return build(t, sample.Doc("rule 0 * { pad: 5; } rule 1 * when width < 202 { pad: 10; }", sample.Root()), sample.Zone(0, 100, 100, 200, 203))
}

func TestExample(t *testing.T) {
	m := example(t)
	l, least, refuted, e := Prove(m, parse(t, "above 1 15"))
	if want := []api.Case{{Cell: 0, From: 200, Until: 202}, {Cell: 1, From: 202, Until: 204, Holds: true}}; e != 0 || !refuted || !slices.Equal(l, want) || least != sample.Reader(200, 100) {
		t.Error(l, least, refuted, e)
	}
	l, least, refuted, e = Prove(m, parse(t, "above 1 20"))
	if e != 0 || refuted || len(l) != 2 || !l[0].Holds || !l[1].Holds || least != (api.Reader{}) {
		t.Error(l, least, refuted, e)
	}
	if z, e := Readers(m, parse(t, "above 1 15")); e != 0 || !slices.Equal(z, []api.Zone{sample.Zone(0, 100, 100, 202, 203)}) {
		t.Error(z, e)
	}
}

func randomClaim(d *sample.Dice) string {
	id := d.Pick("1", "2", "3", "4", "5")
	return d.Pick("fits "+id, "apart "+id+" 6", "above "+id+" 25", "order", "words "+id+" 2", "not above "+id+" 30", "(fits "+id+" and above 1 60)", "above 1 70")
}

func TestAllReaders(t *testing.T) {
	for seed := range 200 {
		dice := sample.Roll(seed)
		d := sample.Random(dice)
		m := build(t, d, sample.Zone(0, 99, 101, 200, 218), sample.Zone(1, 100, 100, 205, 212))
		x, y := randomClaim(dice), randomClaim(dice)
		c := parse(t, x)
		l, least, refuted, e := Prove(m, c)
		if e != api.OK {
			t.Fatal(e)
		}
		zones, e2 := Readers(m, c)
		opposite, _ := Readers(m, parse(t, "not "+x))
		others, _ := Readers(m, parse(t, y))
		both, _ := Readers(m, parse(t, "("+x+" and "+y+")"))
		either, _ := Readers(m, parse(t, "("+x+" or "+y+")"))
		meet, _ := zone.Meet(zones, others)
		union, _ := zone.Union(zones, others)
		if e2 != 0 || !slices.Equal(both, meet) || !slices.Equal(either, union) {
			t.Fatal("and, or", e2)
		}
		found := false
		at := 0
		for row := range shapes.Rows(m.Zones) {
			for w := row.Width.Lo; w <= row.Width.Hi; w++ {
				r := api.Reader{Lang: row.Lang, Scale: row.Scale, Width: w}
				boxes, e := cells.At(m, r)
				want, _ := claim.Holds(boxes, c)
				want = want && e == 0
				if w >= l[at].Until || m.Cells[l[at].Cell].Scale != r.Scale || m.Cells[l[at].Cell].Lang != r.Lang {
					at++
				}
				in, _ := zone.Has(zones, r)
				out, _ := zone.Has(opposite, r)
				if l[at].Holds != want || w < l[at].From || w >= l[at].Until || in != want || out != (e == 0 && !want) {
					t.Fatalf("seed %d, %q for %v: %v", seed, x, r, l[at])
				}
				if !want && !found {
					found = true
					if least != r {
						t.Fatalf("the least is %v, not %v", least, r)
					}
				}
			}
		}
		if found != refuted || at != len(l)-1 {
			t.Fatal("refuted", refuted)
		}
		checked(t, m, c, l, refuted)
		few := build(t, d, sample.Zone(0, 100, 100, 203, 209))
		want, _ := zone.Meet(zones, few.Zones)
		if got, _ := Readers(few, c); !slices.Equal(got, want) {
			t.Fatal("fewer readers")
		}
	}
}

func checked(t *testing.T, m api.Map, c api.Claim, l []api.Case, refuted bool) {
	t.Helper()
	if ok, e := Check(m, c, l); ok == refuted || e != 0 {
		t.Fatal("the cases do not prove")
	}
	for i := range l {
		for _, change := range []func(x *api.Case){
			func(x *api.Case) { x.Holds = !x.Holds }, func(x *api.Case) { x.From++ }, func(x *api.Case) { x.Until++ }, func(x *api.Case) { x.Cell++ },
		} {
			other := slices.Clone(l)
			change(&other[i])
			if ok, _ := Check(m, c, other); ok {
				t.Fatal("changed cases prove")
			}
		}
	}
	if ok, _ := Check(m, c, l[1:]); ok {
		t.Fatal("fewer cases prove")
	}
}

func TestErrors(t *testing.T) {
	m, c := example(t), parse(t, "order")
	bad := example(t)
	bad.Cells[0].Scale++
	twice := api.Box{Node: 1}
	made, _ := cells.Make([]api.Zone{sample.Zone(0, 100, 100, 200, 201)}, [][]api.Box{{twice}, {twice, twice}}, make([]api.Errno, 2))
	low, _ := cells.Make([]api.Zone{sample.Zone(0, 100, 100, 200, 200)}, [][]api.Box{{{Node: 1, H: -1}}}, make([]api.Errno, 1))
	for i, x := range []struct {
		m api.Map
		c api.Claim
	}{{bad, c}, {m, api.Claim{}}, {made, c}, {low, c}} {
		l, r, refuted, e1 := Prove(x.m, x.c)
		ok, e2 := Check(x.m, x.c, nil)
		z, e3 := Readers(x.m, x.c)
		if e1 != api.ErrArg || e2 != api.ErrArg || e3 != api.ErrArg || l != nil || z != nil || ok || refuted || r != (api.Reader{}) {
			t.Errorf("case %d: %v, %v, %v", i, e1, e2, e3)
		}
	}
	if l, _, refuted, e := Prove(api.Map{}, c); len(l) != 0 || refuted || e != 0 {
		t.Error(e)
	}
	if ok, e := Check(api.Map{}, c, nil); !ok || e != 0 {
		t.Error("nothing is not proved by nothing")
	}
}

// TestLimits has pages that change with each width, so that there are many cases and zones.
func TestLimits(t *testing.T) {
	l := []api.Zone{sample.Zone(0, 100, 119, 200, 3500)}
	var pages [][]api.Box
	for range 20 * 3301 {
		pages = append(pages, []api.Box{{Node: 1, H: len(pages) % 2}})
	}
	m, e := cells.Make(l, pages, make([]api.Errno, len(pages)))
	if e != 0 {
		t.Fatal(e)
	}
	if _, _, _, e := Prove(m, parse(t, "above 1 0")); e != api.ErrLimit {
		t.Error(e, len(m.Cells))
	}
	few := []api.Zone{sample.Zone(0, 100, 100, 200, 2400)}
	m, e = cells.Make(few, pages[:2201], make([]api.Errno, 2201))
	if z, e2 := Readers(m, parse(t, "above 1 0")); e != 0 || e2 != api.ErrLimit || z != nil {
		t.Error(e, e2)
	}
	if z, e2 := Readers(m, parse(t, "above 1 1")); e2 != 0 || !slices.Equal(z, few) {
		t.Error(z, e2)
	}
}
