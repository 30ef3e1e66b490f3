package refs

import (
	"reflect"
	"slices"
	"strconv"
	"strings"
	"testing"

	"forme/api"
	"forme/pages"
	"forme/sample"
)

func paged(number int, nodes ...int) api.Page {
	p := api.Page{Number: number}
	for _, id := range nodes {
		p.Slices = append(p.Slices, api.Slice{Node: id})
	}
	return p
}

func TestRefs(t *testing.T) {
	l := []api.Page{paged(1, 7, 8), paged(2, 12, 8), paged(500, 1000000)}
	for i, x := range []struct {
		s      string
		refs   []int
		filled string
	}{
		{"", nil, ""}, {"@", nil, "@"}, {"@@", nil, "@@"}, {"see @12@, @3@!", []int{12, 3}, "see 2, ?!"}, {"@012@ @0@ @1 2@ @-1@ @x@", nil, "@012@ @0@ @1 2@ @-1@ @x@"},
		{"@@7@8@", []int{7}, "@18@"}, {"@7@8@7@", []int{7, 7}, "181"}, {"@7@@8@@9@", []int{7, 8, 9}, "11?"}, {"@1000000@", []int{1000000}, "500"}, {"@1000001@", nil, "@1000001@"},
		{"@10000000@12@", []int{12}, "@100000002"}, {"@99999999999999999999@", nil, "@99999999999999999999@"}, {"a~@7@~b", []int{7}, "a~1~b"}, {"@7", nil, "@7"}, {"7@", nil, "7@"}, {"@7x@12@", []int{12}, "@7x2"},
	} {
		refs, e := Refs(x.s)
		filled, e2 := Fill(x.s, l)
		if !slices.Equal(refs, x.refs) || filled != x.filled || e != 0 || e2 != 0 {
			t.Errorf("case %d: %v, %q", i, refs, filled)
		}
	}
	for _, s := range []string{"\n", strings.Repeat("a", 2001), "@7@\x7f"} {
		refs, e := Refs(s)
		filled, e2 := Fill(s, l)
		if e != api.ErrArg || e2 != api.ErrArg || refs != nil || filled != "" {
			t.Errorf("%q: %v, %v", s, e, e2)
		}
	}
	for _, n := range []int{0, -1, 501} {
		if s, e := Fill("a", []api.Page{paged(1), paged(n)}); e != api.ErrArg || s != "" {
			t.Error(n, e)
		}
	}
}

func TestParts(t *testing.T) {
	l := []api.Page{paged(9, 7), paged(10, 12)}
	for seed := range 2000 {
		dice := sample.Roll(seed)
		make := func() string {
			s := ""
			for range dice.N(9) {
				s += dice.Pick("@", "7", "@12@", "0", "@7@", " ", "b")
			}
			return s
		}
		a, b := make(), make()
		refs, _ := Refs(a + " " + b)
		x, _ := Refs(a)
		y, _ := Refs(b)
		whole, _ := Fill(a+" "+b, l)
		f, _ := Fill(a, l)
		g, _ := Fill(b, l)
		if !slices.Equal(refs, append(x, y...)) || whole != f+" "+g || len(whole) > len(a)+1+len(b) {
			t.Fatal(a, b)
		}
	}
}

// long returns a document of some texts of one line each, the first of which has a reference to the last one.
func long(n int, first string) api.Doc {
	nodes := []api.Node{sample.Root(), sample.Node(2, 1, api.KindText, 0, first)}
	for i := range n {
		nodes = append(nodes, sample.Node(3+i, 1, api.KindText, 0, "ab"))
	}
	return sample.Doc("", nodes...)
}

func paper(height int) api.Paper {
	return api.Paper{Width: 200, Height: height, Columns: 1, Scale: 100}
}

func TestPrint(t *testing.T) {
	l, e := Print(long(25, "see @27@ and @99@"), paper(20))
	if e != 0 || len(l) != 13 || l[0].Slices[0].Text != "see 13 and ?" {
		t.Fatal(l, e)
	}
	plain := long(25, "see @0@")
	a, e := Print(plain, paper(20))
	b, e2 := pages.Print(plain, paper(20))
	if e != 0 || e2 != 0 || !reflect.DeepEqual(a, b) {
		t.Error(e, e2)
	}
	if l, e := Print(api.Doc{}, paper(20)); e != api.ErrArg || l != nil {
		t.Error(e)
	}
	if l, e := Print(plain, paper(0)); e != api.ErrArg || l != nil {
		t.Error(e)
	}
	if l, e := Print(long(600, "a"), paper(10)); e != api.ErrLimit || l != nil {
		t.Error(e)
	}
}

// TestCycle prints a text that takes two lines exactly if the page number that it tells is 1.
func TestCycle(t *testing.T) {
	d := sample.Doc("rule 0 * { line: 10; }", sample.Root())
	d.Fonts[0].Glyphs['1'-32].Advance = 1000
	d.Nodes = append(d.Nodes, sample.Node(2, 1, api.KindText, 0, "@3@ @3@"), sample.Node(3, 1, api.KindText, 0, "d"))
	// `1 1` takes two lines, so that the node 3 is on page 2; `2 2` takes one, so that it is on page 1.
	if l, e := Print(d, paper(25)); e != api.ErrCycle || l != nil {
		t.Error(l, e)
	}
	d.Fonts[0].Glyphs['2'-32].Advance = 1000
	if l, e := Print(d, paper(25)); e != 0 || len(l) != 2 {
		t.Error(l, e)
	}
}

func TestTrue(t *testing.T) {
	printed := 0
	for seed := range 400 {
		dice := sample.Roll(seed)
		d := sample.Random(dice)
		for i, n := range d.Nodes {
			if n.Kind == api.KindText || n.Kind == api.KindNote {
				d.Nodes[i].Text += dice.Pick(" @2@", "@5@@6@", " x @9@ @77@", "")
			}
		}
		p := api.Paper{Width: 210, Height: 20 + dice.N(20), Columns: 1, Scale: 100}
		l, e := Print(d, p)
		if e != api.OK {
			continue
		}
		printed++
		filled := d
		filled.Nodes = slices.Clone(d.Nodes)
		for i := range filled.Nodes {
			filled.Nodes[i].Text, _ = Fill(d.Nodes[i].Text, l)
			if refs, _ := Refs(filled.Nodes[i].Text); len(refs) > 0 && !strings.Contains(d.Nodes[i].Text, "@@") {
				t.Fatal("a reference is left")
			}
		}
		if own, e := pages.Print(filled, p); e != api.OK || !reflect.DeepEqual(own, l) {
			t.Fatalf("seed %d: the numbers are not true", seed)
		}
	}
	if printed < 150 {
		t.Error("too few documents are printed", printed)
	}
}

// steps returns a document with so many references, one of which becomes longer in each round, so that one more of the nodes that they are about comes to the second page.
func steps(n int) (api.Doc, api.Paper) {
	d := sample.Doc("", sample.Root())
	d.Fonts[0].Glyphs['2'-32].Advance = 1000
	for i := range n {
		to := strings.ReplaceAll("@N@ @N@", "N", strconv.Itoa(100+i))
		d.Nodes = append(d.Nodes, sample.Node(10+i, 1, api.KindText, 0, to))
	}
	for i := range n {
		d.Nodes = append(d.Nodes, sample.Node(100+n-1-i, 1, api.KindText, 0, "d"))
	}
	return d, paper(20*n - 10)
}

func TestRounds(t *testing.T) {
	for n, want := range map[int]api.Errno{2: 0, 3: 0, 7: 0, 8: api.ErrCycle, 12: api.ErrCycle} {
		d, p := steps(n)
		l, e := Print(d, p)
		if e != want || e == 0 && len(l) != 2 || e != 0 && l != nil {
			t.Error(n, len(l), e)
		}
	}
}
