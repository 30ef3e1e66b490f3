package claim

import (
	"strconv"
	"strings"

	"forme/api"
)

const mostDigits = 10

// words returns the words and parentheses of a source.
func words(s string) []string {
	s = strings.ReplaceAll(strings.ReplaceAll(s, "(", " ( "), ")", " ) ")
	var l []string
	for _, w := range strings.Split(s, " ") {
		if w != "" {
			l = append(l, w)
		}
	}
	return l
}

// parser reads words; it panics where one cannot follow.
type parser struct {
	words []string
	at    int
}

func (p *parser) want(ok bool) {
	if !ok {
		panic(api.ErrSyntax)
	}
}

func (p *parser) next() string {
	p.want(p.at < len(p.words))
	p.at++
	return p.words[p.at-1]
}

func (p *parser) number() int {
	s := p.next()
	p.want(len(s) <= mostDigits && (s[0] != '0' || len(s) == 1))
	for i := range len(s) {
		p.want(s[i] >= '0' && s[i] <= '9')
	}
	n, _ := strconv.Atoi(s)
	return n
}

func (p *parser) claim() api.Claim {
	switch p.next() {
	case "fits":
		return api.Claim{Op: api.ClaimFits, A: p.number()}
	case "apart":
		a := p.number()
		return api.Claim{Op: api.ClaimApart, A: a, B: p.number()}
	case "above":
		a := p.number()
		return api.Claim{Op: api.ClaimAbove, A: a, N: p.number()}
	case "order":
		return api.Claim{Op: api.ClaimOrder}
	case "words":
		a := p.number()
		return api.Claim{Op: api.ClaimWords, A: a, N: p.number()}
	case "not":
		return api.Claim{Op: api.ClaimNot, Kids: []api.Claim{p.claim()}}
	case "(":
		return p.several()
	}
	panic(api.ErrSyntax)
}

// several reads claims with the same word between them, up to the closing parenthesis.
func (p *parser) several() api.Claim {
	c := api.Claim{Kids: []api.Claim{p.claim()}}
	word := ""
	for {
		w := p.next()
		if w == ")" {
			break
		}
		p.want((w == "and" || w == "or") && (word == "" || word == w))
		word = w
		c.Kids = append(c.Kids, p.claim())
	}
	p.want(len(c.Kids) >= leastKids && len(c.Kids) <= mostKids)
	c.Op = api.ClaimAnd
	if word == "or" {
		c.Op = api.ClaimOr
	}
	return c
}
