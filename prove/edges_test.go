package prove

import (
	"slices"
	"testing"

	"forme/api"
	"forme/cells"
	"forme/sample"
)

// TestManyZones proves a claim for readers who have just as many zones as there may be, and more.
func TestManyZones(t *testing.T) {
	for n, want := range map[int]api.Errno{999: 0, 1000: 0, 1001: api.ErrLimit} {
		// Every other width is refused, in a row for each scale, and those of neighbouring scales are different.
		z := []api.Zone{sample.Zone(0, 50, 50+n/10, 200, 220)}
		var pages [][]api.Box
		var errors []api.Errno
		left := n
		for s := range n/10 + 1 {
			for w := range 21 {
				h := 0
				if w%2 != s%2 && w < 20 && left > 0 {
					h, left = 5, left-1
				}
				pages, errors = append(pages, []api.Box{{Node: 1, H: h}}), append(errors, 0)
			}
		}
		m, e := cells.Make(z, pages, errors)
		if e != 0 {
			t.Fatal(e)
		}
		l, e := Readers(m, parse(t, "not above 1 1"))
		if e != want || (e == 0) != (len(l) == n) || e != 0 && l != nil {
			t.Error(n, len(l), e)
		}
	}
}

// TestErrorsOfReaders looks at readers who get errors, for whom no claim holds.
func TestErrorsOfReaders(t *testing.T) {
	d := sample.Doc("rule 0 * when width < 202 { pad: 1000000 * 1000 * 9; }", sample.Root())
	m := build(t, d, sample.Zone(2, 100, 100, 200, 203))
	for _, s := range []string{"order", "not order", "not fits 1"} {
		l, least, refuted, e := Prove(m, parse(t, s))
		if e != 0 || !refuted || least != (api.Reader{Width: 200, Scale: 100, Lang: 2}) || l[0].Holds || l[0].Until != 202 {
			t.Error(s, l, least, refuted, e)
		}
		if ok, e := Check(m, parse(t, s), l); ok || e != 0 {
			t.Error(ok, e)
		}
	}
	if l, e := Readers(m, parse(t, "order")); e != 0 || !slices.Equal(l, []api.Zone{sample.Zone(2, 100, 100, 202, 203)}) {
		t.Error(l, e)
	}
}

// TestMostCases proves a claim with just as many cases as there may be, and with one more.
func TestMostCases(t *testing.T) {
	var z []api.Zone
	for i := range 261 {
		z = append(z, sample.Zone(0, 50, 300, 200+3*i, 200+3*i))
	}
	z = append(z, sample.Zone(1, 50, 73, 200, 200), sample.Zone(2, 50, 50, 200, 201))
	n := api.MaxCells + 1
	for h, want := range map[int]api.Errno{5: 0, 6: api.ErrLimit} {
		pages, errors := make([][]api.Box, n), make([]api.Errno, n)
		for i := range pages {
			pages[i] = []api.Box{{Node: 1, H: 5}}
		}
		pages[n-1][0].H = h
		m, e := cells.Make(z, pages, errors)
		if e != 0 || len(m.Cells) != api.MaxCells {
			t.Fatal(len(m.Cells), e)
		}
		c := parse(t, "above 1 5")
		l, _, refuted, e := Prove(m, c)
		_, e2 := Check(m, c, l)
		if e != want || e2 != want || refuted || e == 0 && len(l) != api.MaxCells || e != 0 && l != nil {
			t.Error(h, len(l), refuted, e, e2)
		}
	}
}
