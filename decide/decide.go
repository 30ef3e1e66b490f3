// Package decide finds the rules that decide the properties of nodes, in valid trees and by valid rules. It is no layer: it is what the packages share that need the styles of many nodes.
package decide

import (
	"iter"

	"forme/api"
	"forme/match"
	"forme/selector"
	"forme/value"
)

// Sheet has rules, and what they match in a tree.
type Sheet struct {
	rules   []api.Rule
	ranks   []rank
	matched [][]bool
	cuts    [api.Props + 1]func(v int) int
}

// rank has what makes a rule stronger than another one, the most important thing first.
type rank [3]int

// Choice is the rule and the declaration that decide a property.
type Choice struct {
	Rule, Decl int
	Found      bool
	rank       rank
}

// New returns the sheet of rules for a tree (or for a path: nodes that are not above a node play no part for it).
func New(nodes []api.Node, up []int, rules []api.Rule) *Sheet {
	s := &Sheet{rules: rules, cuts: cuts()}
	for i, r := range rules {
		weight, _ := selector.Weight(r.Tests)
		s.ranks = append(s.ranks, rank{r.Layer, weight, i})
		s.matched = append(s.matched, match.All(nodes, up, r.Tests))
	}
	return s
}

// Matches reports whether a rule matches the node with an index.
func (s *Sheet) Matches(rule, i int) bool { return s.matched[rule][i] }

// Choices returns what decides each property of the node with an index.
func (s *Sheet) Choices(i int, r api.Reader, box int) [api.Props + 1]Choice {
	var l [api.Props + 1]Choice
	for rule := range s.holding(i, r, box) {
		for decl, d := range s.rules[rule].Decls {
			c := &l[d.Prop]
			if !c.Found || c.rank == s.ranks[rule] || below(c.rank, s.ranks[rule]) {
				*c = Choice{rule, decl, true, s.ranks[rule]}
			}
		}
	}
	return l
}

// Style returns the style of the node with an index, and whether it exists.
func (s *Sheet) Style(i int, r api.Reader, parent api.Style, width, box int) (api.Style, bool) {
	style := First()
	choices := s.Choices(i, r, box)
	vars := variables(parent)
	decide := func(prop int) bool {
		c := choices[prop]
		if !c.Found {
			if inherited(prop) {
				style[prop] = parent[prop]
			}
			return true
		}
		e := s.rules[c.Rule].Decls[c.Decl].Value
		v := e.N
		if e.Op != api.OpNumber {
			var no api.Errno
			if v, no = value.Eval(e, width, r.Scale, vars); no != api.OK {
				return false
			}
		}
		style[prop] = s.cuts[prop](v)
		return true
	}
	for prop := api.PropVar; prop <= api.Props; prop++ {
		if !decide(prop) {
			return api.Style{}, false
		}
	}
	vars = variables(style)
	for prop := 1; prop < api.PropVar; prop++ {
		if !decide(prop) {
			return api.Style{}, false
		}
	}
	return style, true
}

// First returns the first style.
func First() api.Style {
	var s api.Style
	s[api.PropLine] = 10
	s[api.PropCols] = 1
	s[api.PropSpan] = 1
	return s
}

// MayBe reports whether all values of a style are ones that may be.
func MayBe(s api.Style) bool {
	for prop, cut := range cuts() {
		if cut(s[prop]) != s[prop] {
			return false
		}
	}
	return true
}

// Holds reports whether a condition holds.
func Holds(l []api.Term, r api.Reader, box int) bool {
	for _, t := range l {
		if !holds(t, r, box) {
			return false
		}
	}
	return true
}

// holding produces the rules that match a node, and hold.
func (s *Sheet) holding(i int, r api.Reader, box int) iter.Seq[int] {
	return func(yield func(int) bool) {
		for rule, m := range s.matched {
			if m[i] && Holds(s.rules[rule].When, r, box) && !yield(rule) {
				return
			}
		}
	}
}

func below(a, b rank) bool {
	for i := range a {
		if a[i] != b[i] {
			return a[i] < b[i]
		}
	}
	return false
}

func holds(t api.Term, r api.Reader, box int) bool {
	switch t.What {
	case api.WidthBelow:
		return r.Width < t.N
	case api.WidthFrom:
		return r.Width >= t.N
	case api.ScaleBelow:
		return r.Scale < t.N
	case api.ScaleFrom:
		return r.Scale >= t.N
	case api.LangIs:
		return r.Lang == t.N
	case api.BoxBelow:
		return box >= 0 && box < t.N
	case api.BoxFrom:
		return box >= 0 && box >= t.N
	}
	return false
}

func variables(s api.Style) [8]int {
	var vars [8]int
	copy(vars[:], s[api.PropVar:])
	return vars
}

func inherited(prop int) bool {
	switch prop {
	case api.PropFont, api.PropLine, api.PropAlign, api.PropDir:
		return true
	}
	return prop >= api.PropVar
}

// cuts returns what cuts the value of each property.
func cuts() [api.Props + 1]func(v int) int {
	between := func(low, high int) func(v int) int {
		return func(v int) int { return min(max(v, low), high) }
	}
	flag := func(v int) int {
		if v != 0 {
			return 1
		}
		return 0
	}
	place, choice, span, variable := between(-100000, 100000), between(0, 2), between(1, api.MaxTracks), between(-1000000, 1000000)
	l := [api.Props + 1]func(v int) int{
		0:                 between(0, 0),
		api.PropMarginTop: place, api.PropMarginBottom: place, api.PropTop: place, api.PropLeft: place,
		api.PropSide: choice, api.PropAlign: choice, api.PropFont: between(0, api.MaxFonts-1),
		api.PropCols: span, api.PropSpan: span,
		api.PropDir: flag, api.PropKeep: flag, api.PropBox: flag, api.PropHead: flag, api.PropHide: flag,
	}
	for prop := range l {
		switch {
		case prop >= api.PropVar:
			l[prop] = variable
		case l[prop] == nil:
			l[prop] = between(0, 100000)
		}
	}
	return l
}
