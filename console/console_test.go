package console

import (
	"slices"
	"strconv"
	"strings"
	"testing"

	"forme/api"
	"forme/edit"
	"forme/layout"
	"forme/sample"
)

// check runs a script of commands, each with what it prints after `=>`.
func check(t *testing.T, script string) {
	t.Helper()
	var source, want []string
	for line := range strings.SplitSeq(strings.TrimSpace(script), "\n") {
		command, out, _ := strings.Cut(line, "=>")
		source = append(source, command)
		want = append(want, strings.TrimSpace(out))
	}
	text, e, line := Run(strings.Join(source, "\n"))
	if e != 0 || line != 0 {
		t.Fatalf("error %d in line %d: %s", e, line, source[line-1])
	}
	got := strings.Split(strings.TrimSuffix(text, "\n"), "\n")
	for i := range want {
		if i >= len(got) || got[i] != want[i] {
			t.Errorf("%s: %q, not %q", source[i], got[i], want[i])
		}
	}
	if len(got) != len(want) {
		t.Errorf("%d lines, not %d", len(got), len(want))
	}
}

func TestExamples(t *testing.T) {
	check(t, `
insert 2 1 2 0 0 ab cd => ok
show 200 100 0 => 1 0 0 200 10; 2 0 0 200 10 [ab cd 0 0]
rule 0 rule 0 text when width < 202 { above: 5; } => ok
zones 0 100 100 200 203 => 4
map => 2
prove above 1 10 => refuted 200 100 0
readers above 1 10 => 0 100 100 202 203
rules => rule 0 text when width < 202 { above: 5; }
knob 0 0 3 1 0 7 => ok
repair above 1 13 => 0 : 1
repair above 1 9 => none
paper 202 30 1 0 100 0 => 1
booklet => 0 1; 0 0
send 2 => 1
feed 0 => ok
print 3 => ok
printed => 1 0 [ab cd 0]
`)
}

func TestEdits(t *testing.T) {
	check(t, `
journal => 0 0
undo => error 6
rules => none
insert 2 1 2 3 0   a  b   => ok
insert 3 1 1 0 2 => ok
insert 4 3 1 0 0 => ok
insert 4 3 1 0 0 => error 5
insert 5 9 1 0 0 => error 4
insert 5 1 8 0 0 => error 25
insert 5 1 1 0 9 => error 24
insert 5 1 1 0 0 text => error 1
insert 5 1 1 101 0 => error 1
journal => 3 99
show 200 100 0 => 1 0 0 200 10; 3 0 0 200 0; 2 0 0 200 10 [a  b 0 0]; 4 0 0 200 0
move 2 3 4 => ok
move 1 3 4 => error 24
show 200 100 0 => 1 0 0 200 10; 3 0 0 200 10; 2 0 0 200 10 [a  b 0 0]; 4 0 10 200 0
undo => 1
undo => error 6
journal => 5 161
text 2 => ok
text 3 a => error 25
text 9 a => error 4
class 2 5 => ok
class 9 5 => error 4
rule 0 rule 0 *.5 { line: 7; } rule 0 * { } => error 1
rule 0 => error 1
rule 0 rule 0 *.5 { line: 7 } => error 8
rule 1 rule 0 *.5 { line: 7; } => error 4
rule 0 rule 0 *.5 { line: 7; } => ok
rule 1 rule 101 * { } => error 1
rule 1 rule 1 * { pad: 1 * 2; } => ok
style 2 9 200 100 0 => 7
style 2 3 200 100 0 => 2
style 2 0 200 100 0 => error 1
style 9 0 200 100 0 => error 1
style 2 33 200 100 0 => error 1
style 9 1 200 100 0 => error 4
style 2 1 100 100 0 => error 1
rules => rule 0 *.5 { line: 7; }; rule 1 * { pad: 1 * 2; }
drop 0 => ok
drop 1 => error 4
rules => rule 1 * { pad: 1 * 2; }
undo => 2
rules => rule 0 *.5 { line: 7; }; rule 1 * { pad: 1 * 2; }
advance 0 97 12 => ok
advance 0 97 1001 => error 1
advance 1 97 5 => error 4
advance 0 256 5 => error 1
advance 0 -1 5 => error 1
advance 0 -159 5 => error 1
advance 0 353 5 => error 1
advance 0 126 5 => error 1
text 2 aa => ok
show 200 100 0 => 1 0 0 200 19; 3 2 2 196 8; 4 4 4 192 4; 2 2 10 196 7 [aa 2 10]
remove 3 => ok
remove 1 => error 24
undo => 2
show 200 100 0 => 1 0 0 200 19; 3 2 2 196 8; 2 2 10 196 7 [aa 2 10]; 4 4 4 192 4
show 199 100 0 => error 1
cut -1 => error 1
cut 9999999999 => error 1
cut 99 => 3
journal => 3 99
undo => error 6
rules => none
show 200 100 0 => 1 0 0 200 10; 3 0 0 200 0; 2 0 0 200 10 [a  b 0 0]; 4 0 0 200 0
cut 99 => 3
cut 98 => 2
journal => 2 68
cut 0 => 0
show 200 100 0 => 1 0 0 200 0
rule 0 rule 0 * { hide: 1; } => ok
show 200 100 0 => none
`)
}

func TestMaps(t *testing.T) {
	check(t, `
at 200 100 0 => error 6
prove order => error 6
prove => error 6
readers order => error 6
map => 0
prove order => proved 0
readers order => none
zones => 0
zones 0 100 100 200 => error 1
zones 0 100 100 200 199 => error 1
zones 0 100 100 200 263 => 64
zones 0 100 100 200 264 => error 2
zones 0 100 101 200 201 1 100 100 300 300 => 5
at 200 100 0 => error 6
map => 3
at 201 101 0 => 1 0 0 201 0
at 300 100 1 => 1 0 0 300 0
at 202 100 0 => error 4
at 5 100 0 => error 1
prove => error 8
prove order order => error 8
readers above 1 x => error 8
prove above 0 5 => error 1
prove above 1 0 => proved 3
prove (above 1 0 and not order) => refuted 200 100 0
insert 2 1 2 0 0 abc => ok
rule 0 rule 0 text when lang 1 { above: 4; } => ok
at 201 101 0 => 1 0 0 201 11; 2 0 0 201 11 [abc 0 0]
at 300 100 1 => 1 0 0 300 14; 2 0 4 300 10 [abc 0 4]
prove above 1 11 => refuted 300 100 1
readers above 1 11 => 0 100 101 200 201
insert 3 1 2 0 0 @ => ok
rule 1 rule 0 *#3 when width < 201 { box: 1; } => ok
at 200 100 0 => error 21
at 201 100 0 => 1 0 0 201 20; 2 0 0 201 10 [abc 0 0]; 3 0 10 201 10 [@ 0 10]
cut 5 => 0
at 201 100 0 => error 6
repair order => : 0
repair => error 8
repair not order => none
knob 0 0 5 5 => error 1
rule 0 rule 0 * { pad: 1 + 1; pad: 9; above: 10%; } => ok
knob 0 1 5 => error 1
knob 0 1 => error 1
knob 0 0 5 5 => error 1
knob 1 0 5 5 => error 1
knob 0 2 10001 5 => error 1
knob 0 1 7 3 5 4 0 9 => ok
knob 0 1 7 3 => error 1
repair above 1 18 => -1 : 0
repair above 1 15 => 0 : 3
repair above 1 10 => 1 : 4
repair above 1 0 => 2 : 9
repair not above 1 0 => -1 : 0
knob 0 2 5 5 6 6 7 7 => ok
repair (above 1 0 and fits 1) => 2 -1 : 9
rule 0 rule 0 * { pad: 9; pad: 2; above: 3; } => ok
knob 0 0 5 5 => ok
repair above 1 0 => error 2
rule 0 rule 0 * { } => ok
repair above 1 0 => error 2
repair above 1 => error 8
`)
	check(t, `
rule 0 rule 0 * { pad: 9; } => ok
knob 0 0 7 3 => ok
drop 0 => ok
repair order => error 1
insert 2 1 2 0 0 abcd => ok
insert 3 1 1 0 0 => ok
rule 0 rule 0 text { cut: 5; } => ok
show 200 100 0 => 1 0 0 200 5; 2 0 0 200 5 cut [abcd 0 0]; 3 0 5 200 0
`)
}

func TestVersions(t *testing.T) {
	check(t, `
versions => none
hold => error 4
let 1 => error 4
push => ok
hold => 1
hold => 1
push => ok
push => ok
versions => 1 2; 3 0
let 3 => error 6
let 1 => ok
versions => 1 1; 3 0
let 1 => ok
let 1 => error 4
versions => 3 0
`)
}

func TestPieces(t *testing.T) {
	check(t, `
insert 2 1 10 0 0 => ok
insert 3 1 2 0 0 ab => ok
offers 300 100 0 => 2 300
offers 300 100 4 => error 1
page 300 100 0 => 1 0 0 300 10; 2 0 0 300 0; 3 0 0 300 10 [ab 0 0]
contract 2 1 => error 1
contract 2 101 40 => error 1
contract 2 1 -40 => error 1
contract 0 1 40 => error 1
contract 2 1 40 40 30 => ok
contract 2 1 40 => error 1
contract 1 1 40 => error 1
contract 7 1 40 => ok
page 201 100 0 => 1 0 0 201 50; 2 0 0 201 40; 3 0 40 201 10 [ab 0 40]
page 300 100 0 => 1 0 0 300 40; 2 0 0 300 30; 3 0 30 300 10 [ab 0 30]
show 300 100 0 => 1 0 0 300 10; 2 0 0 300 0; 3 0 0 300 10 [ab 0 0]
answer 3 5 300 100 0 => error 4
answer 7 5 300 100 0 => error 4
answer 2 -5 300 100 0 => error 1
answer 2 30 300 100 0 => 0 0
answer 2 31 300 100 0 => 1 1
answer 2 41 200 100 0 => 2 1
answer 2 20 300 100 0 => 3 2 frozen
answer 2 99 300 100 0 => 3 2 frozen
answer 2 99 300 100 7 => error 1
insert 8 1 10 0 0 => ok
answer 8 5 300 100 0 => error 4
rule 0 rule 0 piece { hide: 1; } => ok
offers 300 100 0 => none
answer 2 5 300 100 0 => error 4
`)
}

func TestPrinting(t *testing.T) {
	check(t, `
booklet => error 6
send 1 => error 6
feed 0 => error 6
print 3 => error 6
down => error 6
up => error 6
wants => error 6
printed => error 6
paper 200 30 1 0 100 0 => none
booklet => none
send 1 => error 1
feed 0 => error 6
insert 2 1 2 0 0 aa bb => ok
insert 3 1 2 0 0 see @2@ and @9@ => ok
insert 4 1 2 0 0 dd => ok
paper 200 9 1 0 100 0 => 1; 1; 1
booklet => 0 1; 2 3
paper 200 20 1 0 100 9 => error 1
booklet => 0 1; 2 3
paper 200 20 1 0 100 0 => 2; 1
booklet => 0 1; 2 0
send 0 => error 1
send 65 => error 1
printed => error 6
send 2 => 3
printed => none
wants => 0
feed 3 => error 4
feed -1 => error 4
feed 2 => error 2
feed 1 => ok
wants => 0
print 3 => error 4
feed 0 => ok
feed 0 => ok
wants => none
print 4 => error 1
print 1 => ok
print 3 => error 6
wants => none
down => error 6
feed 0 => error 6
up => ok
up => error 6
wants => 0
feed 0 => ok
print 2 => ok
up => ok
printed => 1 0 [aa bb 0]
wants => 1
feed 1 => ok
print 3 => ok
feed 2 => ok
down => ok
up => ok
feed 2 => ok
print 3 => ok
wants => none
printed => 1 0 [aa bb 0]; 1 10 [see 1 and ? 0]; 2 0 [dd 0]
paper 200 20 1 0 100 0 => 2; 1
printed => error 6
feed 0 => error 6
`)
}

// TestFirstDocument looks at fonts, hyphens and columns of the first document.
func TestFirstDocument(t *testing.T) {
	check(t, `
insert 2 1 2 0 0 a}a ~a => ok
insert 3 1 2 0 0 b~cd => ok
rule 0 rule 0 * { align: 1; } => ok
rule 1 rule 0 *#3 { most: 1; } => ok
show 200 100 0 => 1 0 0 200 20; 2 0 0 200 10 [a}a a 150 0]; 3 0 10 200 10 [bcd 170 10]
insert 4 1 5 0 0 => ok
move 3 4 0 => ok
rule 2 rule 0 grid { cols: 8; } => ok
show 200 100 0 => 1 0 0 200 30; 2 0 0 200 10 [a}a a 150 0]; 4 0 10 200 20; 3 0 10 25 20 [b- 5 10] [cd 5 20]
show 200 100 3 => 1 0 0 200 30; 2 0 0 200 10 [a}a a 150 0]; 4 0 10 200 20; 3 0 10 25 20 [b- 5 10] [cd 5 20]
text 3 cd~e => ok
show 200 100 1 => 1 0 0 200 30; 2 0 0 200 10 [a}a a 150 0]; 4 0 10 200 20; 3 0 10 25 20 [cd- -5 10] [e 15 20]
text 3 b~cd => ok
drop 2 => ok
drop 1 => ok
drop 0 => ok
paper 407 10 2 7 100 0 => 2
send 2 => 1
feed 0 => ok
print 3 => ok
printed => 1 0 [a}a a 0] [bcd 207]
style 1 32 200 100 0 => 0
prove order => error 6
`)
	check(t, `
rule 0 rule 0 * { pad: 5; above: 5; } => ok
zones 0 100 100 200 200 => 1
knob 0 0 1 1 2 2 3 3 => ok
knob 0 1 1 1 2 2 3 3 => ok
repair above 1 0 => none
drop 0 => ok
repair above 1 0 => error 1
`)
	check(t, `
rule 0 rule 0 * { pad: 5; above: 5; } => ok
knob 0 0 1 1 => ok
knob 0 1 1 1 2 2 3 3 1 1 2 2 3 3 1 1 2 2 => ok
repair order => error 2
`)
	var l []string
	for id := range 65 {
		l = append(l, "contract "+numbers(id+1, 0, 5))
	}
	if out := run(t, l); out[63] != "ok" || out[64] != "error 1" {
		t.Error(out)
	}
	l = nil
	for range 64 {
		l = append(l, "class 1 3")
	}
	// The Clock 64 takes two bytes, and so does that of the edit that undoes the last one.
	out := run(t, append(l[:63:63], "journal", l[63], "journal", "undo", "journal"))
	if out[63] != "63 1953" || out[65] != "64 1985" || out[67] != "65 2017" {
		t.Error(out[63], out[65], out[67])
	}
}

func TestForm(t *testing.T) {
	for i, x := range []struct {
		s    string
		e    api.Errno
		line int
	}{
		{"", 0, 0}, {"\n\n # x\n#y\n   \n", 0, 0}, {"map", 0, 0}, {"  map  \n", 0, 0}, {"maps", api.ErrSyntax, 1}, {"Map", api.ErrSyntax, 1}, {"map 1", api.ErrSyntax, 1}, {"\n#\nmap\nshow 200 100", api.ErrSyntax, 4},
		{"show 200 100 0 0", api.ErrSyntax, 1}, {"show 200 100 x", api.ErrSyntax, 1}, {"show 200 100 00", api.ErrSyntax, 1}, {"show 200 100 -0", api.ErrSyntax, 1}, {"show 200 100 +0", api.ErrSyntax, 1},
		{"show 200 100 012", api.ErrSyntax, 1}, {"show 200 100 -12", 0, 0}, {"show 200 100 --12", api.ErrSyntax, 1}, {"show 200 100 -", api.ErrSyntax, 1}, {"show 200 100 -9999999999", 0, 0}, {"show 200 100 12345678901", api.ErrSyntax, 1},
		{"show\t200 100 0", api.ErrSyntax, 1}, {"zones", 0, 0}, {"zones 1 x", api.ErrSyntax, 1}, {"zones 1 2 3", 0, 0}, {"knob 1", api.ErrSyntax, 1}, {"knob 1 2", 0, 0}, {"contract 1 2 3 4 b", api.ErrSyntax, 1},
		{"text", api.ErrSyntax, 1}, {"text 2", 0, 0}, {"prove", 0, 0}, {"prove ( 5 \x01", 0, 0}, {"insert 1 2 3 4", api.ErrSyntax, 1}, {"insert 1 2 3 4 5", 0, 0}, {"undo 1", api.ErrSyntax, 1}, {"map\nundo x\nfoo", api.ErrSyntax, 2},
		{strings.Repeat("map\n", 200), 0, 0}, {strings.Repeat("#\nmap\n", 200) + "\n#", 0, 0}, {strings.Repeat("map\n\n", 201), api.ErrLimit, 401}, {strings.Repeat("map\n", 200) + "foo", api.ErrLimit, 201},
		{strings.Repeat("map\n", 199) + "foo\nmap\nmap", api.ErrSyntax, 200}, {strings.Repeat(" ", 20000), 0, 0}, {strings.Repeat(" ", 20001), api.ErrLimit, 0}, {"# \xff\nmap", 0, 0},
	} {
		text, e, line := Run(x.s)
		if e != x.e || line != x.line || e != 0 && text != "" {
			t.Errorf("case %d: %v, %d", i, e, line)
		}
	}
	if text, _, _ := Run("  map  \n\n# x\n journal"); text != "0\n0 0\n" {
		t.Error(text)
	}
}

// editing returns a command that edits; id is that of a new node.
func editing(dice *sample.Dice, id int) string {
	n := strconv.Itoa
	switch dice.N(9) {
	case 0:
		return "remove " + n(2+dice.N(9))
	case 1:
		return "move " + n(2+dice.N(9)) + " " + n(1+dice.N(9)) + " 0"
	case 2:
		return "text " + n(2+dice.N(9)) + " " + sample.Text(dice)
	case 3:
		return "class " + n(1+dice.N(9)) + " " + n(dice.N(3))
	case 4, 5:
		return "rule " + n(dice.N(4)) + " " + strings.ReplaceAll(sample.Rule(dice), "\n", " ")
	case 6:
		return dice.Pick("drop "+n(dice.N(3)), "advance 0 97 "+n(dice.N(20)), "undo")
	}
	kind := 1 + dice.N(11)
	text := ""
	if kind == api.KindText || dice.N(2) == 0 {
		kind, text = api.KindText, sample.Text(dice)
	}
	return "insert " + n(id) + " " + n(1+dice.N(id)) + " " + n(kind) + " 0 0 " + text
}

// asking has commands that change nothing.
func asking(dice *sample.Dice) string {
	n := strconv.Itoa
	reader := n(200+dice.N(6)) + " " + n(99+dice.N(3)) + " " + n(dice.N(2))
	return dice.Pick("show "+reader, "style "+n(1+dice.N(5))+" "+n(1+dice.N(33))+" "+reader, "at "+reader, "prove above 1 "+n(dice.N(50)), "prove order", "readers fits 2", "readers above 1 30",
		"repair above 1 "+n(dice.N(40)), "rules", "journal", "versions", "offers "+reader, "page "+reader, "booklet", "wants", "printed")
}

func anything(dice *sample.Dice, id int) string {
	n := strconv.Itoa
	reader := n(200+dice.N(6)) + " 100 0"
	switch dice.N(7) {
	case 0, 1:
		return editing(dice, id)
	case 2:
		return asking(dice)
	case 3:
		return dice.Pick("zones 0 100 100 200 205", "map", "zones 0 100 101 200 202 1 99 99 203 204", "map", "push", "hold", "let "+n(1+dice.N(3)), "knob 0 0 "+n(dice.N(9))+" 2", "cut "+n(dice.N(400)))
	case 4:
		return dice.Pick("contract "+n(2+dice.N(6))+" 1 5 6 7", "answer "+n(2+dice.N(6))+" "+n(dice.N(9))+" "+reader, "paper 200 "+n(10+dice.N(30))+" 1 0 100 0", "send "+n(1+dice.N(3)))
	}
	return dice.Pick("feed "+n(dice.N(4)), "print "+n(dice.N(5)), "print 3", "down", "up")
}

func run(t *testing.T, l []string) []string {
	t.Helper()
	text, e, line := Run(strings.Join(l, "\n"))
	if e != 0 {
		t.Fatalf("error %d: %s", e, l[line-1])
	}
	return strings.Split(strings.TrimSuffix(text, "\n"), "\n")
}

func TestScripts(t *testing.T) {
	refused := 0
	for seed := range 120 {
		dice := sample.Roll(seed)
		l := []string{"insert 2 1 2 0 0 ab cd", "insert 3 1 10 0 0", "rule 0 rule 0 * { pad: 1; }"}
		for i := range 40 {
			l = append(l, anything(dice, 4+i))
		}
		out := run(t, l)
		if part := run(t, l[:20]); !slices.Equal(part, out[:20]) {
			t.Fatal("beginnings")
		}
		// Nothing is changed by what is refused, and by what asks.
		var kept, prints []string
		for i, x := range l {
			word, _, _ := strings.Cut(x, " ")
			error := strings.HasPrefix(out[i], "error")
			if error {
				refused++
			}
			if !error && !strings.Contains(" show style at prove readers repair rules journal versions offers page booklet wants printed ", " "+word+" ") {
				kept, prints = append(kept, x), append(prints, out[i])
			}
		}
		if !slices.Equal(run(t, kept), prints) {
			t.Fatalf("seed %d: %v", seed, l)
		}
		spread := strings.Join(l, "  \n\n# x\n   ")
		if text, e, _ := Run(spread); e != 0 || strings.TrimSuffix(text, "\n") != strings.Join(out, "\n") {
			t.Fatal("form")
		}
	}
	if refused < 500 {
		t.Error("too few commands are refused", refused)
	}
}

func TestMapsOfEdits(t *testing.T) {
	readers := []string{"200 100 0", "201 100 0", "202 100 0", "300 99 1"}
	for seed := range 60 {
		dice := sample.Roll(seed)
		l := []string{"zones 0 100 100 200 202 1 99 99 300 300", "map"}
		for i := range 30 {
			l = append(l, editing(dice, 2+i))
		}
		for _, r := range readers {
			l = append(l, "at "+r, "show "+r)
		}
		out := run(t, l)
		for i := len(out) - 8; i < len(out); i += 2 {
			if out[i] != out[i+1] {
				t.Fatalf("seed %d: %s: %s, %s", seed, l[i], out[i], out[i+1])
			}
		}
	}
}

// TestShown looks whether the page is that of the document after the edits.
func TestShown(t *testing.T) {
	for seed := range 60 {
		dice := sample.Roll(seed)
		d := firstDoc()
		var l, want []string
		for clock := 1; clock < 30; clock++ {
			e := sample.Edit(dice, d)
			e.Clock, e.Editor = clock, 1
			n := e.Node
			switch e.Kind {
			case api.EditInsert:
				l = append(l, "insert "+numbers(n.ID, n.Parent, n.Kind, n.Class, e.Before)+" "+strings.Trim(n.Text, " "))
				e.Node.Text = strings.Trim(n.Text, " ")
			case api.EditText:
				e.Text = strings.Trim(e.Text, " ")
				l = append(l, "text "+numbers(e.ID)+" "+e.Text)
			case api.EditClass:
				l = append(l, "class "+numbers(e.ID, e.N))
			case api.EditRemove:
				l = append(l, "remove "+numbers(e.ID))
			case api.EditMove:
				l = append(l, "move "+numbers(e.ID, e.Parent, e.Before))
			case api.EditDrop:
				l = append(l, "drop "+numbers(e.At))
			case api.EditAdvance:
				l = append(l, "advance "+numbers(e.At, int(e.Byte), e.N))
			default:
				continue
			}
			next, no := edit.Apply(d, e)
			text := done
			if no == api.OK {
				d = next
			} else {
				text = "error " + numbers(int(no))
			}
			page, no := boxes(layout.Lay(d, sample.Reader(210, 120), nil))
			if no != api.OK {
				page = "error " + numbers(int(no))
			}
			l, want = append(l, "show 210 120 0"), append(want, text, page)
		}
		if got := run(t, l); !slices.Equal(got, want) {
			t.Fatalf("seed %d: %v; %v", seed, l, got)
		}
	}
}

func TestPower(t *testing.T) {
	whole := []string{"1 0 [a 0]", "1 10 [b 0]", "2 0 [c 0]", "2 10 [d 0]", "3 0 [e 0]"}
	for seed := range 100 {
		dice := sample.Roll(seed)
		var l []string
		for i, s := range []string{"a", "b", "c", "d", "e"} {
			l = append(l, "insert "+numbers(2+i, 1, 2, 0, 0)+" "+s)
		}
		l = append(l, "paper 200 20 1 0 100 0", "send "+numbers(1+dice.N(3)))
		for range 80 {
			l = append(l, dice.Pick("feed "+numbers(dice.N(5)), "feed "+numbers(dice.N(5)), "print "+numbers(dice.N(4)), "print 3", "up", "down"))
		}
		l = append(l, "printed")
		out := run(t, l)
		got := strings.Split(out[len(out)-1], "; ")
		if got[0] == nothing {
			got = nil
		}
		if len(got) > 5 || !slices.Equal(got, whole[:len(got)]) {
			t.Fatalf("seed %d: %v", seed, got)
		}
	}
}
