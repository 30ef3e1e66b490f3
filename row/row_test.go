package row

import (
	"math/rand"
	"reflect"
	"slices"
	"testing"

	"forme/api"
	"forme/tracks"
)

func TestExample(t *testing.T) {
	if w, e := Widths([]int{10, 0}, []int{1, 1}, 31, 1); e != 0 || !slices.Equal(w, []int{20, 10}) {
		t.Error(w, e)
	}
	b, h, e := Place([]int{10, 20}, []int{5, 8}, 2, 1, 43)
	if want := []api.Box{{X: 5, W: 10, H: 5}, {X: 17, W: 20, H: 8}}; e != 0 || h != 8 || !reflect.DeepEqual(b, want) {
		t.Error(b, h, e)
	}
	for align, want := range []int{0, 5, 11} {
		if b, _, _ := Place([]int{10, 20}, []int{5, 8}, 2, align, 43); b[0].X != want {
			t.Error(align, b)
		}
		if b, _, _ := Place([]int{10, 20}, []int{5, 8}, 2, align, 30); b[0].X != 0 {
			t.Error(align, b)
		}
	}
}

func TestWidths(t *testing.T) {
	r := rand.New(rand.NewSource(1))
	for range 1000 {
		n := 1 + r.Intn(5)
		bases, grows := make([]int, n), make([]int, n)
		sum, grow := 0, 0
		for i := range n {
			bases[i], grows[i] = r.Intn(3)*10, r.Intn(3)
			sum, grow = sum+bases[i], grow+grows[i]
		}
		space, gap := r.Intn(150), r.Intn(5)
		w, e := Widths(bases, grows, space, gap)
		if e != 0 {
			t.Fatal(e)
		}
		used := gap * (n - 1)
		for i := range n {
			used += w[i]
			if w[i] < bases[i] {
				t.Fatal(bases, grows, space, w)
			}
			for j := range n {
				if bases[i] == bases[j] && grows[i] == grows[j] && (w[i] > w[j]+1 || w[j] > w[i]+1) {
					t.Fatal(bases, grows, space, w)
				}
			}
		}
		if grow > 0 && sum+gap*(n-1) <= space && used != space {
			t.Fatal(bases, grows, space, w)
		}
		var l []api.Track
		for i := range n {
			l = append(l, api.Track{Base: bases[i], Grow: grows[i]})
		}
		if want, _ := tracks.Share(l, space, gap); !slices.Equal(w, want) {
			t.Fatal(w, want)
		}
	}
}

func TestPlaces(t *testing.T) {
	r := rand.New(rand.NewSource(2))
	for range 1000 {
		n := 1 + r.Intn(5)
		widths, heights := make([]int, n), make([]int, n)
		for i := range n {
			widths[i], heights[i] = r.Intn(30), r.Intn(30)
		}
		gap, align, space := r.Intn(5), r.Intn(3), r.Intn(150)
		b, h, e := Place(widths, heights, gap, align, space)
		if e != 0 || h != slices.Max(heights) {
			t.Fatal(b, h, e)
		}
		for i, x := range b {
			if x.W != widths[i] || x.H != heights[i] || x.Y != 0 || i > 0 && x.X != b[i-1].X+b[i-1].W+gap {
				t.Fatal(b)
			}
		}
		before, after := b[0].X, space-b[n-1].X-b[n-1].W
		over := before + after
		if over <= 0 && before != 0 {
			t.Fatal(b, space)
		}
		if over > 0 && (align == 0 && before != 0 || align == 2 && after != 0 || align == 1 && after-before != over%2) {
			t.Fatal(b, space, align)
		}
	}
}

func TestErrors(t *testing.T) {
	one := []int{1}
	for i, x := range []struct {
		bases, grows []int
		space, gap   int
	}{{nil, nil, 0, 0}, {one, nil, 0, 0}, {one, []int{1001}, 0, 0}, {[]int{-1}, one, 0, 0}, {one, one, -1, 0}, {one, one, 0, -1}} {
		if w, e := Widths(x.bases, x.grows, x.space, x.gap); e != api.ErrArg || w != nil {
			t.Errorf("widths %d: %v", i, e)
		}
	}
	for i, x := range []struct {
		widths, heights   []int
		gap, align, space int
	}{
		{nil, nil, 0, 0, 0}, {make([]int, 65), make([]int, 65), 0, 0, 0}, {[]int{-1}, one, 0, 0, 0}, {one, []int{-1}, 0, 0, 0}, {one, []int{api.MaxCoord + 1}, 0, 0, 0},
		{one, nil, 0, 0, 0}, {one, one, -1, 0, 0}, {one, one, 100001, 0, 0}, {one, one, 0, 3, 0}, {one, one, 0, -1, 0}, {one, one, 0, 0, -1}, {one, one, 0, 0, 1000001},
	} {
		if b, h, e := Place(x.widths, x.heights, x.gap, x.align, x.space); e != api.ErrArg || b != nil || h != 0 {
			t.Errorf("place %d: %v", i, e)
		}
	}
	if _, h, e := Place(one, []int{api.MaxCoord}, 100000, 2, 1000000); e != 0 || h != api.MaxCoord {
		t.Error(h, e)
	}
}
