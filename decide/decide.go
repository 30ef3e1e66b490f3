// Package decide finds the rules that decide the properties of nodes, in valid trees and by valid rules. It is no layer: it is what the packages share that need the styles of many nodes.
package decide

import (
	"iter"

	"forme/api"
	"forme/match"
	"forme/selector"
	"forme/value"
)

// Sheet has rules, and what they match in a tree.
type Sheet struct {
	rules   []api.Rule
	ranks   []rank
	matched [][]bool
	cuts    [api.Props + 1]func(v int) int
}

// span has the least and the greatest value of a property.
type span struct{ low, high int }

// spans has the values of each property that may be.
var spans = [api.Props + 1]span{
	0:                    {0, 0},
	api.PropMarginTop:    {-100000, 100000},
	api.PropMarginBottom: {-100000, 100000},
	api.PropPad:          {0, 100000},
	api.PropWidth:        {0, 100000},
	api.PropMin:          {0, 100000},
	api.PropMax:          {0, 100000},
	api.PropSide:         {0, 2},
	api.PropFont:         {0, api.MaxFonts - 1},
	api.PropLine:         {0, 100000},
	api.PropAlign:        {0, 2},
	api.PropDir:          {0, 1},
	api.PropGrow:         {0, 100000},
	api.PropBasis:        {0, 100000},
	api.PropCols:         {1, api.MaxTracks},
	api.PropSpan:         {1, api.MaxTracks},
	api.PropGap:          {0, 100000},
	api.PropKeep:         {0, 1},
	api.PropTop:          {-100000, 100000},
	api.PropLeft:         {-100000, 100000},
	api.PropCut:          {0, 100000},
	api.PropBox:          {0, 1},
	api.PropSticky:       {0, 100000},
	api.PropHead:         {0, 1},
	api.PropHide:         {0, 1},
	api.PropVar:          {-1000000, 1000000},
	api.PropVar + 1:      {-1000000, 1000000},
	api.PropVar + 2:      {-1000000, 1000000},
	api.PropVar + 3:      {-1000000, 1000000},
	api.PropVar + 4:      {-1000000, 1000000},
	api.PropVar + 5:      {-1000000, 1000000},
	api.PropVar + 6:      {-1000000, 1000000},
	api.Props:            {-1000000, 1000000},
}

// rank has what makes a rule stronger than another one, the most important thing first.
type rank [3]int

// Choice is the rule and the declaration that decide a property.
type Choice struct {
	Rule, Decl int
	Found      bool
	rank       rank
}

// New returns the sheet of rules for a tree (or for a path: nodes that are not above a node play no part for it).
func New(nodes []api.Node, up []int, rules []api.Rule) *Sheet {
	s := &Sheet{rules: rules, cuts: cuts()}
	for i, r := range rules {
		weight, _ := selector.Weight(r.Tests)
		s.ranks = append(s.ranks, rank{r.Layer, weight, i})
		s.matched = append(s.matched, match.All(nodes, up, r.Tests))
	}
	return s
}

// Matches reports whether a rule matches the node with an index.
func (s *Sheet) Matches(rule, i int) bool { return s.matched[rule][i] }

// Choices returns what decides each property of the node with an index.
func (s *Sheet) Choices(i int, r api.Reader, box int) [api.Props + 1]Choice {
	var l [api.Props + 1]Choice
	for rule := range s.holding(i, r, box) {
		for decl, d := range s.rules[rule].Decls {
			c := &l[d.Prop]
			if !c.Found || c.rank == s.ranks[rule] || below(c.rank, s.ranks[rule]) {
				*c = Choice{rule, decl, true, s.ranks[rule]}
			}
		}
	}
	return l
}

// Style returns the style of the node with an index, and whether it exists.
func (s *Sheet) Style(i int, r api.Reader, parent api.Style, width, box int) (api.Style, bool) {
	style := First()
	choices := s.Choices(i, r, box)
	vars := variables(parent)
	decide := func(prop int) bool {
		c := choices[prop]
		if !c.Found {
			if inherited(prop) {
				style[prop] = parent[prop]
			}
			return true
		}
		e := s.rules[c.Rule].Decls[c.Decl].Value
		v := e.N
		if e.Op != api.OpNumber {
			var no api.Errno
			if v, no = value.Eval(e, width, r.Scale, vars); no != api.OK {
				return false
			}
		}
		style[prop] = s.cuts[prop](v)
		return true
	}
	for prop := api.PropVar; prop <= api.Props; prop++ {
		if !decide(prop) {
			return api.Style{}, false
		}
	}
	vars = variables(style)
	for prop := 1; prop < api.PropVar; prop++ {
		if !decide(prop) {
			return api.Style{}, false
		}
	}
	return style, true
}

// First returns the first style.
func First() api.Style {
	var s api.Style
	s[api.PropLine] = 10
	s[api.PropCols] = 1
	s[api.PropSpan] = 1
	return s
}

// MayBe reports whether all values of a style are ones that may be.
func MayBe(s api.Style) bool {
	for prop, cut := range cuts() {
		if cut(s[prop]) != s[prop] {
			return false
		}
	}
	return true
}

// Holds reports whether a condition holds.
func Holds(l []api.Term, r api.Reader, box int) bool {
	for _, t := range l {
		if !holds(t, r, box) {
			return false
		}
	}
	return true
}

// holding produces the rules that match a node, and hold.
func (s *Sheet) holding(i int, r api.Reader, box int) iter.Seq[int] {
	return func(yield func(int) bool) {
		for rule, m := range s.matched {
			if m[i] && Holds(s.rules[rule].When, r, box) && !yield(rule) {
				return
			}
		}
	}
}

func below(a, b rank) bool {
	for i := range a {
		if a[i] != b[i] {
			return a[i] < b[i]
		}
	}
	return false
}

func holds(t api.Term, r api.Reader, box int) bool {
	switch t.What {
	case api.WidthBelow:
		return r.Width < t.N
	case api.WidthFrom:
		return r.Width >= t.N
	case api.ScaleBelow:
		return r.Scale < t.N
	case api.ScaleFrom:
		return r.Scale >= t.N
	case api.LangIs:
		return r.Lang == t.N
	case api.BoxBelow:
		return box >= 0 && box < t.N
	case api.BoxFrom:
		return box >= 0 && box >= t.N
	}
	return false
}

func variables(s api.Style) [8]int {
	var vars [8]int
	copy(vars[:], s[api.PropVar:])
	return vars
}

func inherited(prop int) bool {
	switch prop {
	case api.PropFont, api.PropLine, api.PropAlign, api.PropDir:
		return true
	}
	return prop >= api.PropVar
}

// cuts returns what cuts the value of each property.
func cuts() [api.Props + 1]func(v int) int {
	var l [api.Props + 1]func(v int) int
	for prop, s := range spans {
		l[prop] = func(v int) int { return min(max(v, s.low), s.high) }
		if s == (span{0, 1}) {
			l[prop] = flag
		}
	}
	return l
}

// flag cuts what is 0 or 1: numbers below 0 become 1, too, although 0 is nearer.
func flag(v int) int {
	if v != 0 {
		return 1
	}
	return 0
}
