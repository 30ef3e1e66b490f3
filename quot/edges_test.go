package quot

import (
	"testing"

	"forme/api"
)

func TestEdges(t *testing.T) {
	good, bad := api.Quot{A: 1, D: 1}, api.Quot{}
	if v, e := At(bad, 3); v != 0 || e != api.ErrArg {
		t.Error(v, e)
	}
	for _, q := range []api.Quot{{A: -api.MaxCoord, B: -api.MaxCoord, D: 1}, {A: api.MaxCoord, B: api.MaxCoord, D: api.MaxDen}} {
		if v, e := At(q, 1); !Valid(q) || e != 0 || v != (q.A+q.B)/q.D {
			t.Error(q, v, e)
		}
	}
	if q, e := Add(api.Quot{D: 1}, -api.MaxCoord); e != 0 || q.B != -api.MaxCoord {
		t.Error(q, e)
	}
	if q, ok, e := Fit([]int{-api.MaxCoord}); !ok || e != 0 || q.B != -api.MaxCoord {
		t.Error(q, ok, e)
	}
	if _, ok, e := Fit(make([]int, api.MaxInts)); !ok || e != 0 {
		t.Error(ok, e)
	}
	if _, ok, e := Fit(make([]int, api.MaxInts+1)); ok || e != api.ErrLimit {
		t.Error(ok, e)
	}
	for _, x := range [][2]api.Quot{{good, bad}, {bad, good}} {
		if n, ok, e := Below(x[0], x[1], 5); n != 0 || ok || e != api.ErrArg {
			t.Error(n, ok, e)
		}
	}
	// The first place at which 4 is less than n is 5.
	for last, found := range map[int]bool{3: false, 4: false, 5: true, 6: true} {
		n, ok, e := Below(api.Quot{B: 4, D: 1}, good, last)
		if e != 0 || ok != found || ok && n != 5 || !ok && n != 0 {
			t.Error(last, n, ok, e)
		}
	}
	if n, ok, _ := Below(api.Quot{B: -1, D: 1}, api.Quot{D: 1}, 0); n != 0 || !ok {
		t.Error(n, ok)
	}
	if n, ok, _ := Below(api.Quot{B: api.MaxWidth - 1, D: 1}, good, api.MaxWidth); n != api.MaxWidth || !ok {
		t.Error(n, ok)
	}
}
