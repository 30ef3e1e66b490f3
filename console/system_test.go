package console

import (
	"reflect"
	"slices"
	"strings"
	"testing"

	"forme/api"
	"forme/cells"
	"forme/claim"
	"forme/contract"
	"forme/curve"
	"forme/device"
	"forme/edit"
	"forme/embed"
	"forme/journal"
	"forme/layout"
	"forme/merge"
	"forme/pages"
	"forme/program"
	"forme/prove"
	"forme/sample"
	"forme/tree"
	"forme/update"
	"forme/versions"
)

// These tests look at what holds of all layers together (T1 to T9 of the document).

func readersOf(m api.Map) []api.Reader {
	var l []api.Reader
	for _, c := range m.Cells {
		for w := c.From; w < c.Until; w++ {
			l = append(l, api.Reader{Width: w, Scale: c.Scale, Lang: c.Lang})
		}
	}
	return l
}

func samePage(a, b []api.Box) bool {
	return len(a) == len(b) && (len(a) == 0 || reflect.DeepEqual(a, b))
}

// written returns edits with rising stamps of an editor, by what the document is when they are made.
func written(dice *sample.Dice, d api.Doc, editor, n int) []api.Edit {
	var l []api.Edit
	for i := range n {
		e := sample.Edit(dice, d)
		e.Clock, e.Editor = 2*i+1+dice.N(2), editor
		l = append(l, e)
		if next, no := edit.Apply(d, e); no == api.OK {
			d = next
		}
	}
	return l
}

// TestEditorsAndCrashes lets two editors work apart: their journals are torn, continued, and merged in any order.
func TestEditorsAndCrashes(t *testing.T) {
	for seed := range 60 {
		dice := sample.Roll(seed)
		d := sample.Random(dice)
		m, no := cells.Build(d, []api.Zone{sample.Zone(0, 100, 100, 200, 206), sample.Zone(1, 108, 109, 208, 211)})
		if no != api.OK {
			t.Fatal(no)
		}
		held, _ := versions.Push(nil, d)
		held, number, _ := versions.Hold(held)
		a, b := written(dice, d, 1, 6), written(dice, d, 2, 6)
		torn := recovered(t, dice, a)
		one, no := merge.Add(torn, b)
		two, no2 := merge.Add(b, append(slices.Clone(a[len(torn):]), torn...))
		one, no3 := merge.Add(a[len(torn):], one)
		if no != api.OK || no2 != api.OK || no3 != api.OK || !reflect.DeepEqual(one, two) {
			t.Fatal("the editors have other edits", no, no2, no3)
		}
		after, kept, no := update.Run(d, m, one)
		same, no2 := merge.Doc(d, two)
		if no != api.OK || no2 != api.OK || !reflect.DeepEqual(after, same) {
			t.Fatal("the editors have other documents", no, no2)
		}
		for _, r := range readersOf(m) {
			got, no := cells.At(kept, r)
			want, no2 := layout.Lay(after, r, nil)
			if no != no2 || !samePage(got, want) {
				t.Fatalf("seed %d: %v gets something else", seed, r)
			}
		}
		held, _ = versions.Push(held, after)
		if was, no := versions.Doc(held, number); no != api.OK || !reflect.DeepEqual(was, d) {
			t.Fatal("a held version is another one")
		}
	}
}

// recovered returns the edits that are left of a journal that is torn somewhere.
func recovered(t *testing.T, dice *sample.Dice, l []api.Edit) []api.Edit {
	t.Helper()
	var b []byte
	for _, e := range l {
		var no api.Errno
		if b, no = journal.Append(b, e); no != api.OK {
			t.Fatal(no)
		}
	}
	left, _, no := journal.Load(b[:dice.N(len(b)+1)])
	if no != api.OK || len(left) > 0 && !reflect.DeepEqual(left, l[:len(left)]) {
		t.Fatal(no)
	}
	return left
}

// TestClaimsOfAll proves claims by the map, and looks at each reader alone.
func TestClaimsOfAll(t *testing.T) {
	for seed := range 60 {
		dice := sample.Roll(seed)
		d := sample.Random(dice)
		m, _ := cells.Build(d, []api.Zone{sample.Zone(0, 100, 101, 200, 209)})
		c, _ := claim.Parse(dice.Pick("above 1 "+numbers(dice.N(90)), "fits 2", "(order and not apart 2 3)", "words 3 1"))
		l, least, refuted, no := prove.Prove(m, c)
		if no != api.OK {
			t.Fatal(no)
		}
		var first []api.Reader
		for _, r := range readersOf(m) {
			page, no := layout.Lay(d, r, nil)
			if ok, _ := claim.Holds(page, c); no != api.OK || !ok {
				first = append(first, r)
			}
		}
		if refuted != (len(first) > 0) || refuted && least != first[0] {
			t.Fatalf("seed %d: %v, %v", seed, least, first)
		}
		if ok, _ := prove.Check(m, c, l); ok == refuted {
			t.Fatal("the cases")
		}
	}
}

// TestNothingOverlaps looks at the lines and floats of pages.
func TestNothingOverlaps(t *testing.T) {
	met := 0
	for seed := range 400 {
		dice := sample.Roll(seed)
		d := sample.Doc("rule 0 float { width: "+numbers(20+dice.N(40))+"; side: 2; } rule 1 *.1 { side: 1; } rule 0 text { align: "+numbers(dice.N(3))+"; }", sample.Root())
		for id := 2; id < 12; id++ {
			n := sample.Node(id, 1, api.KindText, dice.N(2), sample.Text(dice))
			if dice.N(3) == 0 {
				n.Kind, n.Text = api.KindFloat, ""
			}
			d.Nodes, _ = tree.Insert(d.Nodes, n, 0)
			if n.Kind == api.KindFloat {
				d.Nodes, _ = tree.Insert(d.Nodes, sample.Node(100+id, id, api.KindPiece, 0, ""), 0)
			}
		}
		var held []api.Held
		for id := 102; id < 112; id++ {
			held = append(held, api.Held{Node: id, H: 5 + dice.N(30)})
		}
		page, no := layout.Lay(d, sample.Reader(200+dice.N(60), 100), held)
		if no != api.OK {
			t.Fatal(no)
		}
		met += overlaps(t, d, page)
	}
	if met < 100 {
		t.Error("too few lines stand beside floats", met)
	}
}

// overlaps returns how many lines of a page stand beside floats.
func overlaps(t *testing.T, d api.Doc, page []api.Box) int {
	t.Helper()
	beside := 0
	for i, f := range page {
		at, _, _ := tree.Find(d.Nodes, f.Node)
		if d.Nodes[at].Kind != api.KindFloat {
			continue
		}
		for j, b := range page {
			for _, s := range b.Lines {
				if s.Y >= f.Y+f.H || s.Y+s.H <= f.Y {
					continue
				}
				beside++
				if s.X < f.X+f.W && s.X+s.W > f.X && s.W > 0 {
					t.Fatal("a line is on a float", s, f)
				}
			}
			other, _, _ := tree.Find(d.Nodes, b.Node)
			if j > i && d.Nodes[other].Kind == api.KindFloat && b.X < f.X+f.W && b.X+b.W > f.X && b.Y < f.Y+f.H && b.Y+b.H > f.Y {
				t.Fatal("floats overlap", b, f)
			}
		}
	}
	return beside
}

// TestForeignPieces lets pieces answer what they like.
func TestForeignPieces(t *testing.T) {
	for seed := range 150 {
		dice := sample.Roll(seed)
		d := sample.Random(dice)
		d.Nodes, _ = tree.Insert(d.Nodes, sample.Node(90, 1, api.KindPiece, 0, ""), 0)
		parts, _ := curve.Make(200, []int{5, 9, 9, 7})
		l := []api.Contract{{Node: 90, Most: 1, Heights: parts}}
		r := sample.Reader(200+dice.N(5), 100)
		want, _, no := embed.Page(d, r, l)
		if no != api.OK {
			continue
		}
		account := []api.Account{{Node: 90}}
		for range 6 {
			width, no := embed.Seen(d, r, l, 90)
			if no == api.ErrNone {
				break
			}
			x := api.Answer{Node: 90, Width: width, Kind: 1 + dice.N(3)}
			if x.Kind == api.AnswerHeight {
				x.H = dice.N(12)
			}
			got, next, no := embed.Round(d, r, l, account, []api.Answer{x})
			h, _ := contract.Promised(l[0], width)
			if no != api.OK {
				t.Fatal(no)
			}
			for i, b := range want {
				if b.Node == 90 {
					if got[i].Cut != (b.Cut || x.H > h) {
						t.Fatal("cut", got[i])
					}
					got[i].Cut = b.Cut
				}
			}
			if !samePage(got, want) {
				t.Fatal("a piece changes the page")
			}
			account = next
		}
	}
}

// TestFromPageToPaper prints documents on a device that loses power, and compares what is on the paper with the layout.
func TestFromPageToPaper(t *testing.T) {
	rows := 0
	for seed := range 120 {
		dice := sample.Roll(seed)
		d := sample.Random(dice)
		p := api.Paper{Width: 405 + dice.N(9), Height: 30 + dice.N(60), Columns: 2, Gap: 5, Scale: 100}
		l, no := pages.Print(d, p)
		if no != api.OK {
			continue
		}
		ops, no := program.Compile(l)
		if no != api.OK || len(ops) == 0 {
			continue
		}
		packets, root, no := program.Send(ops)
		x, no2 := device.New(root, len(ops), 1+dice.N(3))
		if no != api.OK || no2 != api.OK {
			t.Fatal(no, no2)
		}
		for len(x.Paper) < len(ops) || !x.Up {
			s := api.Step{Kind: api.StepUp}
			if seq, waits, _ := device.Wants(x); x.Up && waits && dice.N(3) > 0 {
				s = api.Step{Kind: api.StepGet, Packet: packets[seq]}
			} else if x.Up {
				s = api.Step{Kind: api.StepPrint, At: min(dice.N(5), 3)}
			}
			if next, no := device.Step(x, s); no == api.OK {
				x = next
			}
		}
		if !reflect.DeepEqual(x.Paper, ops) {
			t.Fatalf("seed %d: the paper", seed)
		}
		rows += len(ops)
		onPaper(t, d, (p.Width-p.Gap)/2, x.Paper)
	}
	if rows < 150 {
		t.Error("too few rows", rows)
	}
}

// onPaper looks whether the texts on paper are those of the layout for a column.
func onPaper(t *testing.T, d api.Doc, width int, paper []api.Op) {
	t.Helper()
	boxes, no := layout.Lay(d, sample.Reader(width, 100), nil)
	if no != api.OK {
		t.Fatal(no)
	}
	heads := slices.ContainsFunc(d.Rules, func(r api.Rule) bool {
		return slices.ContainsFunc(r.Decls, func(x api.Decl) bool { return x.Prop == api.PropHead })
	})
	var want, got []string
	for _, b := range boxes {
		for _, s := range b.Lines {
			want = append(want, s.Text)
		}
	}
	for _, o := range paper {
		for _, r := range o.Runs {
			got = append(got, r.Text)
		}
	}
	slices.Sort(want)
	slices.Sort(got)
	want = slices.DeleteFunc(want, func(s string) bool { return s == "" })
	if !heads && strings.Join(got, "\n") != strings.Join(want, "\n") {
		t.Fatal(got, want)
	}
}
