package sheet

import (
	"strconv"

	"forme/api"
)

// fault is what the parser panics with.
type fault struct {
	e    api.Errno
	line int
}

// parser reads tokens; where one cannot follow it panics.
type parser struct {
	tokens []token
	at     int
	props  map[string]int
	kinds  map[string]int
	terms  map[string]int
}

func newParser(s string) *parser {
	p := &parser{props: map[string]int{}, kinds: map[string]int{}}
	for t := range tokens(s) {
		p.tokens = append(p.tokens, t)
	}
	for i, n := range names {
		p.props[n] = i + 1
	}
	for i, n := range kinds {
		p.kinds[n] = i
	}
	// The term that asks for less; that which asks for as much or more is the next one.
	p.terms = map[string]int{"width": api.WidthBelow, "scale": api.ScaleBelow, "box": api.BoxBelow}
	return p
}

func (p *parser) source() []api.Rule {
	var l []api.Rule
	for p.tokens[p.at].kind != end {
		line := p.tokens[p.at].line
		p.word("rule")
		if len(l) == api.MaxRules {
			panic(fault{api.ErrLimit, line})
		}
		r := p.rule()
		if !validRule(r) {
			panic(fault{api.ErrArg, line})
		}
		l = append(l, r)
	}
	return l
}

func (p *parser) rule() api.Rule {
	r := api.Rule{Layer: p.number(), Tests: []api.Test{p.test()}}
	for !p.sees('{') && !p.seesWord("when") {
		child := p.skip('>')
		t := p.test()
		t.Child = child
		r.Tests = append(r.Tests, t)
	}
	if p.skipWord("when") {
		r.When = append(r.When, p.term())
		for !p.sees('{') {
			p.word("and")
			r.When = append(r.When, p.term())
		}
	}
	p.sign('{')
	for !p.skip('}') {
		r.Decls = append(r.Decls, p.declaration())
	}
	return r
}

func (p *parser) test() api.Test {
	kind, ok := p.kinds[p.tokens[p.at].text]
	if !ok {
		p.fail()
	}
	p.at++
	t := api.Test{Kind: kind}
	if p.skip('.') {
		t.Class = p.number()
	}
	if p.skip('#') {
		t.ID = p.number()
	}
	return t
}

func (p *parser) term() api.Term {
	if p.skipWord("lang") {
		return api.Term{What: api.LangIs, N: p.number()}
	}
	what, ok := p.terms[p.tokens[p.at].text]
	if !ok {
		p.fail()
	}
	p.at++
	if !p.skip('<') {
		p.sign('>')
		p.sign('=')
		what++
	}
	return api.Term{What: what, N: p.number()}
}

func (p *parser) declaration() api.Decl {
	d := api.Decl{}
	if p.skip('$') {
		line := p.at
		n := p.number()
		if n < 1 || n > api.Props-api.PropVar+1 {
			p.at = line
			p.fail()
		}
		d.Prop = api.PropVar + n - 1
	} else {
		prop, ok := p.props[p.tokens[p.at].text]
		if !ok {
			p.fail()
		}
		p.at++
		d.Prop = prop
	}
	p.sign(':')
	d.Value = p.sum()
	p.sign(';')
	return d
}

func (p *parser) sum() api.Expr {
	e := p.product()
	for {
		op := api.OpSum
		if !p.skip('+') {
			if !p.skip('-') {
				return e
			}
			op = api.OpLess
		}
		e = api.Expr{Op: op, Kids: []api.Expr{e, p.product()}}
	}
}

func (p *parser) product() api.Expr {
	e := p.factor()
	for {
		switch {
		case p.skip('*'):
			e = api.Expr{Op: api.OpTimes, N: p.signed(), Kids: []api.Expr{e}}
		case p.skip('/'):
			e = api.Expr{Op: api.OpOver, N: p.number(), Kids: []api.Expr{e}}
		default:
			return e
		}
	}
}

func (p *parser) factor() api.Expr {
	switch {
	case p.skip('$'):
		return api.Expr{Op: api.OpVar, N: p.number()}
	case p.skipWord("min"):
		return p.choice(api.OpMin)
	case p.skipWord("max"):
		return p.choice(api.OpMax)
	case p.skip('('):
		e := p.sum()
		p.sign(')')
		return e
	}
	e := api.Expr{Op: api.OpNumber, N: p.signed()}
	switch {
	case p.skip('%'):
		e.Op = api.OpPercent
	case p.skipWord("em"):
		e.Op = api.OpEm
	}
	return e
}

// choice reads the two expressions of min and max.
func (p *parser) choice(op int) api.Expr {
	p.sign('(')
	a := p.sum()
	p.sign(',')
	b := p.sum()
	p.sign(')')
	return api.Expr{Op: op, Kids: []api.Expr{a, b}}
}

func (p *parser) fail() { panic(fault{api.ErrSyntax, p.tokens[p.at].line}) }

func (p *parser) sees(kind byte) bool { return p.tokens[p.at].kind == kind }

func (p *parser) seesWord(s string) bool { return p.sees(name) && p.tokens[p.at].text == s }

// skip goes past a sign, if it is there.
func (p *parser) skip(kind byte) bool {
	ok := p.sees(kind)
	if ok {
		p.at++
	}
	return ok
}

// skipWord goes past a word, if it is there.
func (p *parser) skipWord(s string) bool {
	ok := p.seesWord(s)
	if ok {
		p.at++
	}
	return ok
}

func (p *parser) sign(kind byte) {
	if !p.skip(kind) {
		p.fail()
	}
}

func (p *parser) word(s string) {
	if !p.skipWord(s) {
		p.fail()
	}
}

func (p *parser) signed() int {
	if p.skip('-') {
		return -p.number()
	}
	return p.number()
}

func (p *parser) number() int {
	if !p.sees(number) {
		p.fail()
	}
	n, _ := strconv.Atoi(p.tokens[p.at].text)
	p.at++
	return n
}
