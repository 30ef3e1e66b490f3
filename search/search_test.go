package search

import "testing"

func TestFind(t *testing.T) {
	for n := range 9 {
		l := make([]int, n)
		for i := range l {
			l[i] = 2 * i
		}
		for want := -1; want <= 2*n; want++ {
			i, ok := Find(l, func(x int) int { return x - want })
			there := want >= 0 && want%2 == 0 && want < 2*n
			if ok != there || ok && l[i] != want || !ok && i != 0 {
				t.Error(n, want, i, ok)
			}
		}
	}
}
