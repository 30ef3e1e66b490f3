package text

import (
	"strings"
	"testing"

	"forme/api"
)

func TestEdges(t *testing.T) {
	for s, want := range map[string]string{"": "", " ": "", "  ": "", " a": "a", "a ": "a", " ~ ": "~", "a b": "a b"} {
		if got, e := Trim(s); got != want || e != 0 {
			t.Errorf("%q: %q, %v", s, got, e)
		}
	}
	for _, s := range []string{"\x1f", "\x7f", "\x80", "\xff", "é", "a\x00", strings.Repeat("a", 2001)} {
		shown, e := Shown(s)
		words, e2 := Words(s)
		trimmed, e3 := Trim(s)
		if Valid(s) || shown != "" || words != 0 || trimmed != "" || e != api.ErrArg || e2 != api.ErrArg || e3 != api.ErrArg {
			t.Errorf("%q: %v, %v, %v", s, e, e2, e3)
		}
	}
	if n, e := Words(strings.Repeat("a ", 1000)); n != 1000 || e != 0 {
		t.Error(n, e)
	}
	for b, want := range map[byte]int{31: 0, 32: 4, 33: 5, '/': 5, '0': 3, '9': 3, ':': 5, '@': 5, 'A': 2, 'Z': 2, '[': 5, '`': 5, 'a': 1, 'z': 1, '{': 5, 125: 5, 126: 6, 127: 0, 128: 0, 255: 0} {
		if Class(b) != want {
			t.Error(b, Class(b))
		}
	}
}
