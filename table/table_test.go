package table

import (
	"math/rand"
	"reflect"
	"slices"
	"testing"

	"forme/api"
)

func need(lo, hi int) api.Range { return api.Range{Lo: lo, Hi: hi} }

func TestExample(t *testing.T) {
	needs, e := Needs([][]api.Range{{need(10, 20), need(5, 50)}, {need(15, 15)}})
	if e != 0 || !slices.Equal(needs, []api.Range{need(15, 20), need(5, 50)}) {
		t.Error(needs, e)
	}
	for space, want := range map[int][]int{100: {20, 50}, 62: {19, 41}, 22: {15, 5}} {
		if w, e := Widths(needs, space, 2); e != 0 || !slices.Equal(w, want) {
			t.Error(space, w, e)
		}
	}
	if w, e := Widths(needs, 21, 2); e != api.ErrFit || w != nil {
		t.Error(w, e)
	}
	if needs, _ := Needs([][]api.Range{{}, {need(0, 3)}, {need(0, 0), need(1, 1)}}); !slices.Equal(needs, []api.Range{need(0, 3), need(1, 1)}) {
		t.Error(needs)
	}
}

func random(r *rand.Rand) [][]api.Range {
	rows := make([][]api.Range, 1+r.Intn(4))
	for i := range rows {
		for range r.Intn(5) {
			lo := r.Intn(20)
			rows[i] = append(rows[i], need(lo, lo+r.Intn(30)))
		}
	}
	rows[0] = append(rows[0], need(3, 9))
	return rows
}

func TestNeedsAndWidths(t *testing.T) {
	r := rand.New(rand.NewSource(1))
	for range 2000 {
		rows := random(r)
		needs, e := Needs(rows)
		if e != 0 {
			t.Fatal(e)
		}
		for i, n := range needs {
			lo, hi := false, false
			for _, row := range rows {
				if i < len(row) {
					if row[i].Lo > n.Lo || row[i].Hi > n.Hi {
						t.Fatal(rows, needs)
					}
					lo, hi = lo || row[i].Lo == n.Lo, hi || row[i].Hi == n.Hi
				}
			}
			if !lo || !hi {
				t.Fatal(rows, needs)
			}
		}
		slices.Reverse(rows)
		if other, _ := Needs(rows); !slices.Equal(other, needs) {
			t.Fatal("the order of rows plays a part")
		}
		widths(t, r, needs)
	}
}

func widths(t *testing.T, r *rand.Rand, needs []api.Range) {
	t.Helper()
	space, gap := r.Intn(200), r.Intn(5)
	least, wanted := gap*(len(needs)-1), gap*(len(needs)-1)
	for _, n := range needs {
		least, wanted = least+n.Lo, wanted+n.Hi
	}
	w, e := Widths(needs, space, gap)
	if (e == api.OK) != (least <= space) || e != api.OK && e != api.ErrFit {
		t.Fatal(needs, space, gap, e)
	}
	if e != api.OK {
		return
	}
	used := gap * (len(needs) - 1)
	for i, n := range needs {
		used += w[i]
		if w[i] < n.Lo || w[i] > n.Hi {
			t.Fatal(needs, space, w)
		}
	}
	if used != min(space, wanted) {
		t.Fatal(needs, space, w)
	}
	wide, _ := Widths(needs, space+r.Intn(20), gap)
	a, b := 0, 0
	for i := range w {
		if b < a || b+wide[i] < a+w[i] {
			t.Fatal(needs, space, w, wide)
		}
		a, b = a+w[i]+gap, b+wide[i]+gap
	}
}

func TestPlaces(t *testing.T) {
	b, h, e := Place([]int{10, 20}, [][]int{{5, 8}, {}, {3}}, 2)
	want := [][]api.Box{{{W: 10, H: 8}, {X: 12, W: 20, H: 8}}, nil, {{Y: 12, W: 10, H: 3}}}
	if e != 0 || h != 15 || !reflect.DeepEqual(b, want) {
		t.Error(b, h, e)
	}
	if b, h, e := Place([]int{1}, nil, 2); e != 0 || h != 0 || len(b) != 0 {
		t.Error(b, h, e)
	}
	r := rand.New(rand.NewSource(2))
	for range 500 {
		w := []int{r.Intn(30), r.Intn(30), r.Intn(30)}
		rows := make([][]int, 1+r.Intn(5))
		for i := range rows {
			for range r.Intn(4) {
				rows[i] = append(rows[i], r.Intn(20))
			}
		}
		gap := r.Intn(4)
		all, high, _ := Place(w, rows, gap)
		y := 0
		for i, row := range all {
			tall := 0
			for _, h := range rows[i] {
				tall = max(tall, h)
			}
			x := 0
			for j, c := range row {
				if c.X != x || c.Y != y || c.W != w[j] || c.H != tall {
					t.Fatal(rows, all)
				}
				x += w[j] + gap
			}
			y += tall + gap
		}
		if high != y-gap {
			t.Fatal(rows, high)
		}
		n := 1 + r.Intn(len(rows))
		first, firstHigh, _ := Place(w, rows[:n], gap)
		second, _, _ := Place(w, rows[n:], gap)
		for i := range second {
			for j := range second[i] {
				second[i][j].Y += firstHigh + gap
			}
		}
		if !reflect.DeepEqual(append(first, second...), all) {
			t.Fatal("further rows")
		}
	}
}

func TestErrors(t *testing.T) {
	for i, rows := range [][][]api.Range{
		nil, {{}}, make([][]api.Range, 4001), {make([]api.Range, 65)}, {{need(-1, 0)}}, {{need(2, 1)}}, {{need(0, 1000001)}}, {{need(0, 1)}, {need(5, 4)}},
	} {
		if l, e := Needs(rows); e != api.ErrArg || l != nil {
			t.Errorf("needs %d: %v", i, e)
		}
	}
	one := []api.Range{need(0, 1)}
	for i, x := range []struct {
		l          []api.Range
		space, gap int
	}{{nil, 0, 0}, {make([]api.Range, 65), 0, 0}, {[]api.Range{need(2, 1)}, 0, 0}, {one, -1, 0}, {one, 1000001, 0}, {one, 0, -1}, {one, 0, 100001}} {
		if l, e := Widths(x.l, x.space, x.gap); e != api.ErrArg || l != nil {
			t.Errorf("widths %d: %v", i, e)
		}
	}
	for i, x := range []struct {
		w   []int
		h   [][]int
		gap int
	}{{nil, nil, 0}, {make([]int, 65), nil, 0}, {[]int{-1}, nil, 0}, {[]int{1}, [][]int{{1, 2}}, 0}, {[]int{1}, [][]int{{-1}}, 0}, {[]int{1}, [][]int{{1000001}}, 0}, {[]int{1}, make([][]int, 4001), 0}, {[]int{1}, nil, -1}, {[]int{1}, nil, 100001}} {
		if l, h, e := Place(x.w, x.h, x.gap); e != api.ErrArg || l != nil || h != 0 {
			t.Errorf("place %d: %v", i, e)
		}
	}
	rows := make([][]int, 1001)
	for i := range rows {
		rows[i] = []int{1000000}
	}
	if _, _, e := Place([]int{1}, rows, 0); e != api.ErrRange {
		t.Error(e)
	}
	if _, h, e := Place([]int{1}, rows[:1000], 0); e != 0 || h != api.MaxCoord {
		t.Error(h, e)
	}
}
