package breaks

import (
	"testing"

	"forme/api"
)

func TestEdges(t *testing.T) {
	for _, s := range []string{"", "a", "abc", "Aa", "aA", "a1", "~a", "a "} {
		if Valid(api.Breaks{Before: 1, Behind: 1, Keep: []string{s}}) {
			t.Errorf("%q", s)
		}
	}
	var keep []string
	for b := byte('a'); b <= 'u'; b++ {
		keep = append(keep, string([]byte{b, 'z'}))
	}
	for n, want := range map[int]bool{19: true, 20: true, 21: false} {
		if Valid(api.Breaks{Before: 5, Behind: 5, Keep: keep[:n]}) != want {
			t.Error(n)
		}
	}
	for _, x := range [][2]int{{0, 1}, {1, 0}, {6, 1}, {1, 6}} {
		if Valid(api.Breaks{Before: x[0], Behind: x[1]}) {
			t.Error(x)
		}
	}
}
