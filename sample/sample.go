// Package sample makes documents for the tests of the other packages. It is no layer.
package sample

import (
	"strconv"
	"strings"

	"forme/api"
	"forme/sheet"
	"forme/tree"
)

// Dice gives numbers that follow from the one it begins with.
type Dice struct{ state uint64 }

// Roll returns dice that begin with a number.
func Roll(seed int) *Dice { return &Dice{uint64(seed)*2654435769 + 1} }

// N returns a number from 0 to before n.
func (d *Dice) N(n int) int {
	d.state = d.state*6364136223846793005 + 1442695040888963407
	return int(d.state>>33) % n
}

// Pick returns one of some strings.
func (d *Dice) Pick(l ...string) string { return l[d.N(len(l))] }

// Font returns a font in which each byte is 10 wide.
func Font() api.Font {
	f := api.Font{}
	for b := byte(32); b <= 125; b++ {
		f.Glyphs = append(f.Glyphs, api.Glyph{Byte: b, Advance: 10})
	}
	return f
}

// Breaks returns the same rules for all languages.
func Breaks() []api.Breaks {
	l := make([]api.Breaks, api.Langs)
	for i := range l {
		l[i] = api.Breaks{Before: 1, Behind: 1}
	}
	return l
}

// Rules returns the rules of a source, which has to be right.
func Rules(source string) []api.Rule {
	l, e, line := sheet.Parse(source)
	if e != api.OK {
		panic("line " + strconv.Itoa(line) + " of rules: error " + strconv.Itoa(int(e)))
	}
	return l
}

// Doc returns a document with rules and nodes.
func Doc(source string, nodes ...api.Node) api.Doc {
	return api.Doc{Nodes: nodes, Rules: Rules(source), Fonts: []api.Font{Font()}, Breaks: Breaks()}
}

// Node returns a node.
func Node(id, parent, kind, class int, text string) api.Node {
	return api.Node{ID: id, Parent: parent, Kind: kind, Class: class, Text: text}
}

// Root returns the block 1.
func Root() api.Node { return Node(1, 0, api.KindBlock, 0, "") }

// Reader returns a reader of the language 0.
func Reader(width, scale int) api.Reader { return api.Reader{Width: width, Scale: scale} }

// Zone returns a zone.
func Zone(lang, lo, hi, from, to int) api.Zone {
	return api.Zone{Lang: lang, Scale: api.Range{Lo: lo, Hi: hi}, Width: api.Range{Lo: from, Hi: to}}
}

// Text returns some text.
func Text(d *Dice) string {
	var l []string
	for range d.N(6) {
		l = append(l, d.Pick("ab", "CD", "e~f", "ghi~jkl", "x-y", "12", "mn,", " ", "ABC~DEF"))
	}
	return strings.Join(l, " ")
}

// Random returns a document that follows from the dice.
func Random(d *Dice) api.Doc {
	doc := Doc("", Root())
	doc.Fonts[0].Kerns = []api.Kern{{Left: 'a', Right: 'b', By: -3}, {Left: 'e', Right: 'f', By: 4}}
	doc.Fonts = append(doc.Fonts, Font())
	for id := 2; id < 6+d.N(9); id++ {
		n := Node(id, 1+d.N(id-1), 1+d.N(11), d.N(3), "")
		if d.N(3) == 0 {
			n.Kind = api.KindText
		}
		if n.Kind == api.KindText || n.Kind == api.KindNote {
			n.Text = Text(d)
		}
		if l, e := tree.Insert(doc.Nodes, n, 0); e == api.OK {
			doc.Nodes = l
		}
	}
	var b strings.Builder
	for range d.N(6) {
		b.WriteString(Rule(d))
	}
	doc.Rules = Rules(b.String())
	return doc
}

// Rule returns the text of a rule.
func Rule(d *Dice) string {
	s := "rule " + strconv.Itoa(d.N(3)) + " " + d.Pick("*", "text", "block", "float", "*.1", "block > *", "* *.2", "cell", "tr", "row", "grid", "*#"+strconv.Itoa(2+d.N(8)))
	s += d.Pick("", "", " when width < "+strconv.Itoa(200+d.N(20)), " when width >= "+strconv.Itoa(200+d.N(20)),
		" when scale < 110", " when lang 1", " when box < "+strconv.Itoa(150+d.N(60)), " when width < 215 and scale >= 100") + " {"
	for range 1 + d.N(3) {
		n := strconv.Itoa(d.N(30))
		s += d.Pick(" above: "+n+";", " below: -"+n+" / 2;", " pad: "+n+" / 4;", " width: 50%;", " least: "+n+";", " most: 80% + "+n+";",
			" side: 2;", " font: 1;", " line: 1em + "+n+";", " align: "+n+" / 10;", " dir: 1;", " grow: "+n+";", " basis: "+n+";",
			" cols: 1 + "+n+" / 8;", " span: 2;", " gap: "+n+" / 3;", " keep: 1;", " top: "+n+";", " left: 10%;", " cut: 10 + "+n+";",
			" head: 1;", " $1: "+n+";", " pad: $1;", " above: $1 * 2;", " grow: 1;", " width: 40 + "+n+";")
	}
	s += " }\n"
	switch d.N(12) {
	case 0:
		s += "rule 1 *#" + strconv.Itoa(2+d.N(9)) + " when width < 210 { hide: 1; }\n"
	case 1:
		s += "rule 0 *#1 { box: 1; pad: 3; }\n"
	}
	return s
}

// Edit returns an edit of a document that follows from the dice; it may be one that cannot be made.
func Edit(dice *Dice, d api.Doc) api.Edit {
	some := func() int {
		if dice.N(9) == 0 {
			return 1 + dice.N(30)
		}
		return d.Nodes[dice.N(len(d.Nodes))].ID
	}
	e := api.Edit{Clock: 1 + dice.N(99), Editor: 1 + dice.N(3), Kind: 1 + dice.N(8)}
	switch e.Kind {
	case api.EditInsert:
		parent := some()
		e.Node = Node(50+dice.N(9), parent, 1+dice.N(11), dice.N(3), "")
		e.Before = before(dice, d, parent)
		if e.Node.Kind == api.KindText {
			e.Node.Text = Text(dice)
		}
	case api.EditRemove:
		e.ID = some()
	case api.EditMove:
		e.ID, e.Parent = some(), some()
		e.Before = before(dice, d, e.Parent)
	case api.EditText:
		e.ID, e.Text = some(), Text(dice)
	case api.EditClass:
		e.ID, e.N = some(), dice.N(3)
	case api.EditRule:
		e.At, e.Rule = dice.N(len(d.Rules)+1), Rules(Rule(dice))[0]
	case api.EditDrop:
		e.At = dice.N(len(d.Rules) + 1)
	case api.EditAdvance:
		e.At, e.Byte, e.N = dice.N(2), "abce"[dice.N(4)], dice.N(20)
	}
	return e
}

// before returns a child of a node, or 0.
func before(dice *Dice, d api.Doc, parent int) int {
	if k, e := tree.Kids(d.Nodes, parent); e == api.OK && len(k) > 0 && dice.N(2) == 0 {
		return k[dice.N(len(k))]
	}
	return 0
}
