package breaks

import (
	"math/rand"
	"slices"
	"strings"
	"testing"

	"forme/api"
	"forme/text"
)

func rules(before, behind int, keep ...string) api.Breaks {
	return api.Breaks{Before: before, Behind: behind, Keep: keep}
}

func at(l ...int) []api.Break {
	var out []api.Break
	for _, n := range l {
		if n < 0 {
			out = append(out, api.Break{At: -n, Hyphen: true})
		} else {
			out = append(out, api.Break{At: n})
		}
	}
	return out
}

func random(r *rand.Rand) string {
	b := make([]byte, r.Intn(14))
	for i := range b {
		b[i] = "abcK9~~  --."[r.Intn(12)]
	}
	return string(b)
}

func TestPlaces(t *testing.T) {
	b := rules(2, 2, "ck")
	for _, x := range []struct {
		s    string
		want []api.Break
	}{
		{"ab-cd ef", at(3, 6)}, {"ab~cd", at(-3)}, {"a~bcd", nil}, {"bac~kab", nil}, {"bac~Kab", at(-4)},
		{"", nil}, {"a", nil}, {"  a", nil}, {" a  b ", at(4)}, {"a ~ b", at(2, 4)},
		{"-a", nil}, {"a-", nil}, {"1-2", at(2)}, {"a--b", nil}, {".-a", nil},
		{"ab~~cd", at(-3)}, {"a~b~cd", at(-4)}, {"ab~c~d", at(-3)}, {"ab~c d", at(5)}, {"ab~1cd", nil}, {"~ab", nil},
		{"ab~ cd", at(4)}, {"ba~~ck", at(-3)}, {"bac~~kab", nil},
	} {
		if l, e := List(b, x.s); e != api.OK || !slices.Equal(l, x.want) {
			t.Errorf("%q: %v, %v", x.s, l, e)
		}
	}
	if l, _ := Least(b, "ab~cd ef"); !slices.Equal(l, []string{"ab-", "cd", "ef"}) {
		t.Error(l)
	}
	if l, _ := Least(b, "~  x-y "); !slices.Equal(l, []string{"x-", "y"}) {
		t.Error(l)
	}
}

func TestProperties(t *testing.T) {
	r := rand.New(rand.NewSource(1))
	for range 5000 {
		s := random(r)
		b := rules(1+r.Intn(3), 1+r.Intn(3))
		l, e := List(b, s)
		parts, e2 := Least(b, s)
		if e != api.OK || e2 != api.OK {
			t.Fatal(e, e2)
		}
		for i, p := range l {
			if p.At < 1 || p.At >= len(s) || (i > 0 && l[i-1].At >= p.At) {
				t.Fatalf("%q: %v", s, l)
			}
		}
		nothingLost(t, s, l, parts)
		strict, _ := List(rules(b.Before+r.Intn(2), b.Behind+r.Intn(2), "ab", "ca"), s)
		for _, p := range strict {
			if !slices.Contains(l, p) {
				t.Fatalf("%q has the further place %v", s, p)
			}
		}
		for _, p := range l {
			if !p.Hyphen && !slices.Contains(strict, p) {
				t.Fatalf("%q has lost the place %v", s, p)
			}
		}
		plain := strings.NewReplacer("-", "", "~", "").Replace(s)
		words, _ := Least(b, plain)
		if n, _ := text.Words(plain); len(words) != n || strings.Join(words, " ") != strings.Join(strings.Fields(plain), " ") {
			t.Fatalf("%q has the parts %v", plain, words)
		}
	}
}

func nothingLost(t *testing.T, s string, l []api.Break, parts []string) {
	t.Helper()
	var want strings.Builder
	for i := range len(s) {
		if i > 0 && slices.Contains(l, api.Break{At: i, Hyphen: true}) {
			want.WriteByte('-')
		}
		if s[i] != ' ' && s[i] != '~' {
			want.WriteByte(s[i])
		}
	}
	if got := strings.ReplaceAll(strings.Join(parts, ""), " ", ""); got != want.String() || slices.Contains(parts, "") {
		t.Fatalf("%q has the parts %q", s, parts)
	}
}

func TestJoining(t *testing.T) {
	r := rand.New(rand.NewSource(2))
	b := rules(1, 1)
	for range 2000 {
		x, y := strings.TrimRight(random(r), " "), strings.TrimLeft(random(r), " ")
		if x == "" || y == "" {
			continue
		}
		first, _ := List(b, x)
		second, _ := List(b, y)
		want := append(slices.Clone(first), api.Break{At: len(x) + 1})
		for _, p := range second {
			want = append(want, api.Break{At: p.At + len(x) + 1, Hyphen: p.Hyphen})
		}
		if got, _ := List(b, x+" "+y); !slices.Equal(got, want) {
			t.Fatalf("%q and %q: %v, want %v", x, y, got, want)
		}
	}
}

func TestErrors(t *testing.T) {
	var many []string
	for i := range 21 {
		many = append(many, "a"+string(rune('a'+i)))
	}
	for i, b := range []api.Breaks{
		rules(0, 1), rules(6, 1), rules(1, 0), rules(1, 6), rules(1, 1, "a"), rules(1, 1, "abc"), rules(1, 1, "aB"),
		rules(1, 1, "a~"), rules(1, 1, "ab", "ab"), rules(1, 1, many...),
	} {
		_, e := List(b, "ab")
		if _, e2 := Least(b, "ab"); Valid(b) || e != api.ErrArg || e2 != api.ErrArg {
			t.Errorf("rules %d are well-formed", i)
		}
	}
	if !Valid(rules(5, 5, many[:20]...)) {
		t.Error("20 pairs are not well-formed")
	}
	if _, e := List(rules(1, 1), "a\n"); e != api.ErrArg {
		t.Error(e)
	}
	if _, e := Least(rules(1, 1), strings.Repeat("a", 2001)); e != api.ErrArg {
		t.Error(e)
	}
}
