package text

import (
	"math/rand"
	"strings"
	"testing"

	"forme/api"
)

func random(r *rand.Rand) string {
	b := make([]byte, r.Intn(12))
	for i := range b {
		b[i] = "ab Z9~~  -"[r.Intn(10)]
	}
	return string(b)
}

func TestClasses(t *testing.T) {
	for i := range 256 {
		b := byte(i)
		want := 0
		switch {
		case strings.IndexByte("abcdefghijklmnopqrstuvwxyz", b) >= 0:
			want = 1
		case strings.IndexByte("ABCDEFGHIJKLMNOPQRSTUVWXYZ", b) >= 0:
			want = 2
		case strings.IndexByte("0123456789", b) >= 0:
			want = 3
		case b == 32:
			want = 4
		case b == 126:
			want = 6
		case b >= 33 && b <= 125:
			want = 5
		}
		if Class(b) != want || Valid(string([]byte{b})) != (want != 0) {
			t.Errorf("byte %d has class %d", b, Class(b))
		}
	}
}

func TestExamples(t *testing.T) {
	for _, x := range []struct {
		s, shown, trimmed string
		words             int
	}{
		{"ab~cd e", "abcd e", "ab~cd e", 2},
		{" x  ", " x  ", "x", 1},
		{"~ ~", " ", "~ ~", 0},
		{"", "", "", 0},
		{"   ", "   ", "", 0},
		{"~~", "", "~~", 0},
		{"a~ ~b ~ c", "a b  c", "a~ ~b ~ c", 3},
	} {
		shown, e1 := Shown(x.s)
		trimmed, e2 := Trim(x.s)
		words, e3 := Words(x.s)
		if shown != x.shown || trimmed != x.trimmed || words != x.words || e1 != 0 || e2 != 0 || e3 != 0 {
			t.Errorf("%q: %q, %q, %d", x.s, shown, trimmed, words)
		}
	}
}

func TestProperties(t *testing.T) {
	r := rand.New(rand.NewSource(1))
	for range 2000 {
		a, b := random(r), random(r)
		shown, _ := Shown(a)
		again, _ := Shown(shown)
		if again != shown || strings.Contains(shown, "~") || len(shown)+strings.Count(a, "~") != len(a) {
			t.Fatalf("shown of %q is %q", a, shown)
		}
		wa, _ := Words(a)
		wb, _ := Words(b)
		apart, _ := Words(a + " " + b)
		joined, _ := Words(a + b)
		if apart != wa+wb || (joined != wa+wb && joined != wa+wb-1) || (wa > 0) != (strings.Trim(shown, " ") != "") {
			t.Fatalf("words of %q and %q: %d, %d", a, b, apart, joined)
		}
		trimmed, _ := Trim(a)
		twice, _ := Trim(trimmed)
		wt, _ := Words(trimmed)
		if trimmed != strings.Trim(a, " ") || twice != trimmed || wt != wa {
			t.Fatalf("trim of %q is %q", a, trimmed)
		}
		if strings.Trim(trimmed, "~") == trimmed && strings.Trim(a, "~") == a {
			x, _ := Shown(trimmed)
			if y, _ := Trim(shown); x != y {
				t.Fatalf("%q: %q and %q", a, x, y)
			}
		}
		if i := strings.Index(a, "ab"); i >= 0 {
			if w, _ := Words(a[:i+1] + "~" + a[i+1:]); w != wa {
				t.Fatalf("a soft hyphen makes other words of %q", a)
			}
		}
	}
}

func TestErrors(t *testing.T) {
	for _, s := range []string{strings.Repeat("a", 2001), "a\n", "\x7f", "\x1f", "\xff", "ä", "a\x00"} {
		_, e1 := Shown(s)
		_, e2 := Words(s)
		_, e3 := Trim(s)
		if Valid(s) || e1 != api.ErrArg || e2 != api.ErrArg || e3 != api.ErrArg {
			t.Errorf("%q is a text", s)
		}
	}
	if !Valid(strings.Repeat("a", 2000)) {
		t.Error("a text of 2000 bytes is too long")
	}
}
