package device

import (
	"testing"

	"forme/api"
)

func TestWants(t *testing.T) {
	if n, waits, e := Wants(api.Device{}); n != 0 || waits || e != api.ErrArg {
		t.Error(n, waits, e)
	}
	l, d := sent(t, 5, 3)
	wants(t, after(t, d, get(l[1])), 0, true)
	wants(t, after(t, d, get(l[0]), get(l[2])), 1, true)
	wants(t, after(t, d, get(l[0]), get(l[1])), 2, true)
	wants(t, after(t, d, get(l[2]), get(l[0]), get(l[1])), 0, false)
	d = after(t, d, get(l[2]), get(l[0]), get(l[1]), printing(3))
	wants(t, d, 3, true)
	d = after(t, d, get(l[3]), printing(3), printing(3))
	wants(t, d, 4, true)
	d = after(t, d, printing(3), get(l[4]))
	wants(t, d, 0, false)
	wants(t, after(t, d, printing(3)), 0, false)
}
