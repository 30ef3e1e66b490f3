package embed

import (
	"reflect"
	"slices"
	"testing"

	"forme/api"
	"forme/contract"
	"forme/curve"
	"forme/layout"
	"forme/sample"
)

func promise(node, most, from int, heights ...int) api.Contract {
	parts, _ := curve.Make(from, heights)
	return api.Contract{Node: node, Most: most, Heights: parts}
}

func example() api.Doc {
	return sample.Doc("", sample.Root(), sample.Node(2, 1, api.KindPiece, 0, ""), sample.Node(3, 1, api.KindText, 0, "ab"))
}

func answer(node, width, h int) api.Answer {
	return api.Answer{Node: node, Width: width, Kind: api.AnswerHeight, H: h}
}

func TestExample(t *testing.T) {
	d, r, l := example(), sample.Reader(300, 100), []api.Contract{promise(2, 5, 0, 40)}
	boxes, held, e := Page(d, r, l)
	if e != 0 || !slices.Equal(held, []api.Held{{Node: 2, H: 40}}) {
		t.Fatal(held, e)
	}
	piece, _ := layout.Find(boxes, 2)
	text, _ := layout.Find(boxes, 3)
	if piece.W != 300 || piece.H != 40 || piece.Cut || text.Y != 40 {
		t.Error(piece, text)
	}
	after, accounts, e := Round(d, r, l, []api.Account{{Node: 2}}, []api.Answer{answer(2, 300, 50)})
	if e != 0 || !slices.Equal(accounts, []api.Account{{Node: 2, Charged: 1, Changes: 1, Last: 10}}) {
		t.Fatal(accounts, e)
	}
	boxes[1].Cut = true
	if !reflect.DeepEqual(after, boxes) {
		t.Error(after)
	}
	if w, e := Seen(d, r, l, 2); e != 0 || w != 300 {
		t.Error(w, e)
	}
	for _, id := range []int{3, 9, 0, -1} {
		if w, e := Seen(d, r, l, id); e != api.ErrNone || w != 0 {
			t.Error(w, e)
		}
	}
}

func TestRefused(t *testing.T) {
	d, r, l := example(), sample.Reader(300, 100), []api.Contract{promise(2, 5, 0, 40), promise(7, 5, 0, 40)}
	a := []api.Account{{Node: 2}, {Node: 7}}
	for i, x := range []struct {
		d    api.Doc
		r    api.Reader
		l    []api.Contract
		want api.Errno
	}{
		{api.Doc{}, r, l, api.ErrArg}, {d, api.Reader{}, l, api.ErrArg}, {d, r, []api.Contract{l[1], l[0]}, api.ErrArg}, {d, r, []api.Contract{l[0], l[0]}, api.ErrArg},
		{d, r, []api.Contract{{Node: 2}}, api.ErrArg}, {d, r, make([]api.Contract, 65), api.ErrArg},
		{sample.Doc("rule 0 * { box: 1; }", example().Nodes...), r, l, api.ErrCycle}, {sample.Doc("rule 0 * { pad: 1000000 * 1000 * 2; }", sample.Root()), r, l, api.ErrRange},
	} {
		boxes, held, e := Page(x.d, x.r, x.l)
		boxes2, accounts, e2 := Round(x.d, x.r, x.l, nil, nil)
		w, e3 := Seen(x.d, x.r, x.l, 2)
		if e != x.want || e2 != x.want || e3 != x.want || boxes != nil || held != nil || boxes2 != nil || accounts != nil || w != 0 {
			t.Errorf("case %d: %v, %v, %v", i, e, e2, e3)
		}
	}
	for i, x := range []struct {
		a []api.Account
		x []api.Answer
	}{
		{nil, nil}, {a[:1], nil}, {[]api.Account{a[1], a[0]}, nil}, {[]api.Account{a[0], {Node: 7, Charged: -1}}, nil}, {append(slices.Clone(a), a[0]), nil},
		{a, []api.Answer{answer(7, 300, 5)}}, {a, []api.Answer{answer(7, 0, 5)}}, {a, []api.Answer{answer(3, 300, 5)}}, {a, []api.Answer{answer(2, 299, 5)}}, {a, []api.Answer{answer(2, 300, -5)}},
		{a, []api.Answer{answer(2, 300, 5), answer(2, 300, 5)}}, {a, []api.Answer{{Node: 2, Width: 300}}},
	} {
		if boxes, accounts, e := Round(d, r, l, x.a, x.x); e != api.ErrArg || boxes != nil || accounts != nil {
			t.Errorf("round %d: %v", i, e)
		}
	}
	if _, got, e := Round(d, r, l, a, nil); e != 0 || !slices.Equal(got, a) {
		t.Error(got, e)
	}
	// A page that is too high with the held heights has the error of its layout, before that of the accounts.
	deep := sample.Doc("rule 0 * { pad: 1; }", sample.Root(), sample.Node(2, 1, api.KindPiece, 0, ""))
	high := []api.Contract{promise(2, 5, 0, 1000000)}
	if boxes, held, e := Page(deep, r, high); e != api.ErrRange || boxes != nil || held != nil {
		t.Error(e)
	}
	if _, _, e := Round(deep, r, high, nil, nil); e != api.ErrRange {
		t.Error(e)
	}
	if w, e := Seen(deep, r, high, 2); e != 0 || w != 298 {
		t.Error(w, e)
	}
}

func TestSeveral(t *testing.T) {
	d := sample.Doc("rule 0 *#4 { width: 50%; }", sample.Root(), sample.Node(5, 1, api.KindPiece, 0, ""), sample.Node(4, 1, api.KindPiece, 0, ""), sample.Node(3, 1, api.KindPiece, 0, ""))
	var l []api.Contract
	for id := 1; id <= api.MaxPieces; id++ {
		l = append(l, promise(id, 0, 100, append(slices.Repeat([]int{id}, 60), 10*id)...))
	}
	boxes, held, e := Page(d, sample.Reader(300, 100), l)
	if e != 0 || !slices.Equal(held, []api.Held{{Node: 3, H: 30}, {Node: 4, H: 4}, {Node: 5, H: 50}}) {
		t.Fatal(held, e)
	}
	if boxes[0].H != 84 || boxes[1].H != 50 || boxes[2].H != 4 || boxes[3].Y != 54 {
		t.Error(boxes)
	}
	var a []api.Account
	for id := range api.MaxPieces {
		a = append(a, api.Account{Node: id + 1})
	}
	boxes, a, e = Round(d, sample.Reader(300, 100), l, a, []api.Answer{answer(3, 300, 30), answer(4, 150, 5), answer(5, 300, 49)})
	if e != 0 || boxes[1].Cut || !boxes[2].Cut || boxes[3].Cut || a[2] != (api.Account{Node: 3}) || !a[3].Frozen || a[3].Last != 1 || a[4].Last != -1 {
		t.Error(boxes, a, e)
	}
}

// pieces returns a document with pieces, and contracts and accounts of some of them, and of others.
func pieces(dice *sample.Dice) (api.Doc, []api.Contract, []api.Account) {
	d := sample.Random(dice)
	for i, n := range d.Nodes {
		if (n.Kind == api.KindText || n.Kind == api.KindNote) && dice.N(2) == 0 {
			d.Nodes[i].Kind, d.Nodes[i].Text = api.KindPiece, ""
		}
	}
	var l []api.Contract
	var a []api.Account
	for id := 2; id < 20; id++ {
		if dice.N(3) == 0 {
			continue
		}
		var heights []int
		for range 1 + dice.N(30) {
			heights = append(heights, dice.N(50))
		}
		l = append(l, promise(id, dice.N(3), 190+dice.N(20), heights...))
		a = append(a, api.Account{Node: id, Charged: dice.N(3), Changes: dice.N(2), Last: dice.N(3) - 1})
	}
	return d, l, a
}

func TestRounds(t *testing.T) {
	answered := 0
	for seed := range 800 {
		dice := sample.Roll(seed)
		d, l, a := pieces(dice)
		r := sample.Reader(200+dice.N(20), 100)
		boxes, held, e := Page(d, r, l)
		if e != api.OK {
			continue
		}
		var x []api.Answer
		honest := seed%3 == 0
		for _, h := range held {
			w, e := Seen(d, r, nil, h.Node)
			box, _ := layout.Find(boxes, h.Node)
			s := box.H
			if e != api.OK || w != box.W || !box.Cut && s != h.H {
				t.Fatal("piece", h.Node, w, box, e)
			}
			switch {
			case honest:
				x = append(x, answer(h.Node, w, h.H))
			case dice.N(4) == 0:
				x = append(x, api.Answer{Node: h.Node, Width: w, Kind: 2 + dice.N(2)})
			case dice.N(4) > 0:
				x = append(x, answer(h.Node, w, dice.N(60)))
			}
		}
		answered += len(x)
		round(t, d, r, l, a, x, boxes, held, honest)
	}
	if answered < 300 {
		t.Error("too few answers", answered)
	}
}

// round looks at what a round leads to.
func round(t *testing.T, d api.Doc, r api.Reader, l []api.Contract, a []api.Account, x []api.Answer, boxes []api.Box, held []api.Held, honest bool) {
	t.Helper()
	after, accounts, e := Round(d, r, l, a, x)
	if e != api.OK || len(accounts) != len(a) {
		t.Fatal(e)
	}
	for i, c := range l {
		want, cut := a[i], false
		for _, y := range x {
			if y.Node == c.Node {
				want, _, cut, _ = contract.Judge(c, want, y)
			}
		}
		if accounts[i] != want || honest && (cut || want.Charged != a[i].Charged) {
			t.Fatal("account", accounts[i], want)
		}
		for j := range boxes {
			if boxes[j].Node == c.Node {
				boxes[j].Cut = boxes[j].Cut || cut
			}
		}
	}
	if !reflect.DeepEqual(after, boxes) {
		t.Fatal("the boxes are others")
	}
	// Only the heights for the widths that are offered count.
	var same []api.Contract
	for _, h := range held {
		same = append(same, promise(h.Node, 0, 4000, h.H))
	}
	p, held2, e := Page(d, r, same)
	q, _, _ := Page(d, r, l)
	if e != api.OK || !slices.Equal(held, held2) || !reflect.DeepEqual(p, q) {
		t.Fatal("other functions lead to another page")
	}
}
