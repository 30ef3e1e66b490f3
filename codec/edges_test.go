package codec

import (
	"encoding/binary"
	"math"
	"slices"
	"testing"

	"forme/api"
	"forme/digest"
)

func TestNumbers(t *testing.T) {
	for _, l := range [][]int{{math.MaxInt}, {math.MinInt}, {math.MaxInt, math.MinInt, 63, 64, -64, -65, 8191, 8192}} {
		b, e := Put(l)
		if got, e2 := Get(b); e != 0 || e2 != 0 || !slices.Equal(got, l) {
			t.Error(l, got, e, e2)
		}
	}
	ten := func(last byte) []byte {
		return append(append([]byte{2}, slices.Repeat([]byte{255}, 9)...), last)
	}
	if l, e := Get(ten(1)); e != 0 || !slices.Equal(l, []int{math.MinInt}) {
		t.Error(l, e)
	}
	for i, b := range [][]byte{nil, {2}, {2, 128}, ten(2), ten(0), ten(129), append(ten(129), 0), {0, 0}, {1}, {4, 1}, ten(255)} {
		if l, e := Get(b); e != api.ErrForm || l != nil {
			t.Errorf("case %d: %v, %v", i, l, e)
		}
	}
}

// TestLongFrames compares frames of more than 255 and more than 65535 bytes with what the chapter says.
func TestLongFrames(t *testing.T) {
	for _, n := range []int{0, 1, 300, api.MaxInts} {
		l := make([]int, n)
		for i := range l {
			l[i] = math.MaxInt - i
		}
		body, _ := Put(l)
		want := append([]byte{byte(len(body) / 65536), byte(len(body) / 256 % 256), byte(len(body) % 256)}, body...)
		want = binary.BigEndian.AppendUint64(want, digest.Sum(want))
		frame, e := Frame(l)
		if e != 0 || !slices.Equal(frame, want) {
			t.Error(n, e)
		}
		if lists, size, e := Frames(append(slices.Clone(frame), 0, 0, 1)); e != 0 || len(lists) != 1 || !slices.Equal(lists[0], l) || size != len(frame) {
			t.Error(n, size, e)
		}
		for _, cut := range []int{1, 2, 3, 4, 8, 9} {
			if lists, size, e := Frames(frame[:max(len(frame)-cut, 0)]); e != 0 || len(lists) != 0 || size != 0 {
				t.Error(n, size, e)
			}
		}
	}
	short, _ := Frame(nil)
	for n := range 3 {
		if lists, size, e := Frames(short[:n]); e != 0 || len(lists) != 0 || size != 0 {
			t.Error(n, size, e)
		}
	}
	if _, size, e := Frames(make([]byte, api.MaxBytes)); e != 0 || size != 0 {
		t.Error(size, e)
	}
	if lists, size, e := Frames(make([]byte, api.MaxBytes+1)); e != api.ErrLimit || lists != nil || size != 0 {
		t.Error(size, e)
	}
}

func TestStringEdges(t *testing.T) {
	for i, x := range []struct {
		l    []int
		want string
		n    int
		e    api.Errno
	}{
		{nil, "", 0, api.ErrForm}, {[]int{0}, "", 1, 0}, {[]int{-1}, "", 0, api.ErrForm}, {[]int{1}, "", 0, api.ErrForm}, {[]int{1, 0}, "\x00", 2, 0}, {[]int{1, 255, 7}, "\xff", 2, 0},
		{[]int{1, 256}, "", 0, api.ErrForm}, {[]int{1, -1}, "", 0, api.ErrForm}, {append([]int{2001}, make([]int, 2001)...), "", 0, api.ErrForm}, {append([]int{2000}, make([]int, 2000)...), string(make([]byte, 2000)), 2001, 0},
	} {
		if s, n, e := Read(x.l); s != x.want || n != x.n || e != x.e {
			t.Errorf("case %d: %q, %d, %v", i, s, n, e)
		}
	}
}
