package wrap

import (
	"testing"

	"forme/api"
	"forme/sample"
)

func TestEdges(t *testing.T) {
	f, b := sample.Font(), rules()
	type args struct{ scale, line, align, dir, width, y int }
	for i, x := range []struct {
		a    args
		want api.Errno
	}{
		{args{50, 1000000, 2, 1, 1000000, 0}, 0}, {args{300, 0, 0, 0, 0, api.MaxCoord}, 0}, {args{49, 0, 0, 0, 0, 0}, api.ErrArg}, {args{301, 0, 0, 0, 0, 0}, api.ErrArg}, {args{100, -1, 0, 0, 0, 0}, api.ErrArg},
		{args{100, 1000001, 0, 0, 0, 0}, api.ErrArg}, {args{100, 0, -1, 0, 0, 0}, api.ErrArg}, {args{100, 0, 3, 0, 0, 0}, api.ErrArg}, {args{100, 0, 0, -1, 0, 0}, api.ErrArg}, {args{100, 0, 0, 2, 0, 0}, api.ErrArg},
		{args{100, 0, 0, 0, -1, 0}, api.ErrArg}, {args{100, 0, 0, 0, 1000001, 0}, api.ErrArg}, {args{100, 0, 0, 0, 0, -1}, api.ErrArg}, {args{100, 0, 0, 0, 0, api.MaxCoord + 1}, api.ErrArg},
		{args{100, 5, 0, 0, 9, api.MaxCoord - 5}, 0}, {args{100, 5, 0, 0, 9, api.MaxCoord - 4}, api.ErrRange},
	} {
		l, end, e := Lines(f, b, "a", x.a.scale, x.a.line, x.a.align, x.a.dir, x.a.width, x.a.y, nil)
		if e != x.want || (e == 0) != (len(l) == 1) || e == 0 && end != x.a.y+x.a.line || e != 0 && end != 0 {
			t.Errorf("case %d: %v, %d, %v", i, l, end, e)
		}
	}
	// The float leaves no room for the line, and ends too far down.
	low := []api.Float{{Side: 1, Y: api.MaxCoord - 3, W: 9, H: 9}}
	if l, end, e := Lines(f, b, "a", 100, 1, 0, 0, 9, api.MaxCoord-2, low); e != api.ErrRange || l != nil || end != 0 {
		t.Error(end, e)
	}
	if l, end, e := Lines(f, b, "  ", 100, 1, 0, 0, 9, 7, low); e != 0 || l != nil || end != 7 {
		t.Error(end, e)
	}
	if _, _, e := Lines(api.Font{}, b, "", 100, 1, 0, 0, 9, 7, nil); e != 0 {
		t.Error(e)
	}
	if _, _, e := Lines(api.Font{}, b, " ", 100, 1, 0, 0, 9, 7, nil); e != api.ErrGlyph {
		t.Error(e)
	}
}
