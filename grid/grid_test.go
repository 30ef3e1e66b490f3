package grid

import (
	"math/rand"
	"reflect"
	"slices"
	"testing"

	"forme/api"
)

func random(r *rand.Rand, most int) (spans, heights []int) {
	for range r.Intn(12) {
		spans = append(spans, 1+r.Intn(most))
		heights = append(heights, r.Intn(30))
	}
	return spans, heights
}

func TestExample(t *testing.T) {
	spans := []int{1, 2, 2, 1}
	cells, e := Cells(3, spans)
	if e != 0 || !slices.Equal(cells, [][2]int{{0, 0}, {0, 1}, {1, 0}, {1, 2}}) {
		t.Error(cells, e)
	}
	if w, e := Widths(3, spans, 100, 5); e != 0 || !slices.Equal(w, []int{30, 65, 65, 30}) {
		t.Error(w, e)
	}
	b, end, e := Place(3, spans, []int{10, 20, 5, 7}, 100, 5)
	want := []api.Box{{X: 0, W: 30, H: 10}, {X: 35, W: 65, H: 20}, {X: 0, Y: 25, W: 65, H: 5}, {X: 70, Y: 25, W: 30, H: 7}}
	if e != 0 || end != 32 || !reflect.DeepEqual(b, want) {
		t.Error(b, end, e)
	}
	if b, end, e := Place(3, nil, nil, 100, 5); e != 0 || end != 0 || len(b) != 0 {
		t.Error(b, end, e)
	}
}

func TestCellsFollow(t *testing.T) {
	r := rand.New(rand.NewSource(1))
	for range 1000 {
		cols := 1 + r.Intn(6)
		spans, _ := random(r, 8)
		cells, _ := Cells(cols, spans)
		want := [2]int{}
		for i, c := range cells {
			span := min(spans[i], cols)
			if want[1]+span > cols {
				want = [2]int{want[0] + 1, 0}
			}
			if c != want {
				t.Fatalf("%d columns, %v: %v", cols, spans, cells)
			}
			want[1] += span
		}
		cut := slices.Clone(spans)
		for i, s := range cut {
			if s >= cols {
				cut[i] = 64
			}
		}
		if other, _ := Cells(cols, cut); !slices.Equal(other, cells) {
			t.Fatal("greater spans")
		}
	}
}

func TestPlaces(t *testing.T) {
	r := rand.New(rand.NewSource(2))
	for range 1000 {
		cols, space, gap := 1+r.Intn(6), 30+r.Intn(200), r.Intn(5)
		spans, heights := random(r, 8)
		cells, _ := Cells(cols, spans)
		b, end, e := Place(cols, spans, heights, space, gap)
		w, e2 := Widths(cols, spans, space, gap)
		if e != 0 || e2 != 0 {
			t.Fatal(e, e2)
		}
		last := 0
		for i, x := range b {
			if x.W != w[i] || x.H != heights[i] || x.X < 0 || x.X+x.W > space || spans[i] >= cols && x.W != space || cols == 1 && x.X != 0 {
				t.Fatalf("item %d: %v", i, x)
			}
			if i > 0 && cells[i][0] == cells[i-1][0] && (x.Y != b[i-1].Y || x.X != b[i-1].X+b[i-1].W+gap) {
				t.Fatalf("item %d: %v", i, x)
			}
			if i > 0 && cells[i][0] != cells[i-1][0] && x.Y != last+gap || i == 0 && x.Y != 0 {
				t.Fatalf("item %d: %v below %d", i, x, last)
			}
			last = max(last, x.Y+x.H)
		}
		if end != last {
			t.Fatalf("the end is %d, not %d", end, last)
		}
		n := r.Intn(len(spans) + 1)
		if few, _, _ := Place(cols, spans[:n], heights[:n], space, gap); n > 0 && !reflect.DeepEqual(few, b[:n]) {
			t.Fatal("items after them play a part")
		}
	}
}

func TestErrors(t *testing.T) {
	one := []int{1}
	for i, x := range []struct {
		cols       int
		spans      []int
		space, gap int
		want       api.Errno
	}{
		{0, make([]int, 4001), -1, -1, api.ErrLimit}, {0, one, 0, 0, api.ErrArg}, {65, one, 0, 0, api.ErrArg}, {1, []int{0}, 0, 0, api.ErrArg},
		{1, []int{65}, 0, 0, api.ErrArg}, {1, one, -1, 0, api.ErrArg}, {1, one, 1000001, 0, api.ErrArg}, {1, one, 0, -1, api.ErrArg},
		{1, one, 0, 100001, api.ErrArg}, {64, []int{64}, 1000000, 100000, api.OK},
	} {
		_, e1 := Widths(x.cols, x.spans, x.space, x.gap)
		_, _, e2 := Place(x.cols, x.spans, make([]int, len(x.spans)), x.space, x.gap)
		_, e3 := Cells(x.cols, x.spans)
		if e1 != x.want || e2 != x.want || x.space == 0 && x.gap == 0 && e3 != x.want {
			t.Errorf("case %d: %v, %v, %v", i, e1, e2, e3)
		}
	}
	for i, h := range [][]int{nil, {-1}, {1000001}, {1, 1}} {
		if b, end, e := Place(1, one, h, 10, 0); e != api.ErrArg || b != nil || end != 0 {
			t.Errorf("heights %d: %v", i, e)
		}
	}
	spans, heights := slices.Repeat(one, 1001), slices.Repeat([]int{1000000}, 1001)
	if _, _, e := Place(1, spans, heights, 10, 0); e != api.ErrRange {
		t.Error(e)
	}
	if _, end, e := Place(1, spans[:1000], heights[:1000], 10, 0); e != 0 || end != api.MaxCoord {
		t.Error(end, e)
	}
}
