package sheet

import (
	"iter"
	"strings"
)

// Kinds of tokens; a sign has its own byte as its kind.
const (
	end    = 0
	name   = 'n'
	number = 'd'
	bad    = 'x'

	mostDigits = 9
)

const signs = "{}:;,()+-*/%<>=.#$"

// token is a token with its line.
type token struct {
	kind byte
	text string
	line int
}

// tokens produces the tokens of a source, and then the end, or a bad one where no token begins.
func tokens(s string) iter.Seq[token] {
	return func(yield func(token) bool) {
		line := 1
		for at := 0; at < len(s); {
			b := s[at]
			if b == '\n' {
				line++
			}
			if b == ' ' || b == '\n' {
				at++
				continue
			}
			t := first(s[at:])
			t.line = line
			if !yield(t) || t.kind == bad {
				return
			}
			at += len(t.text)
		}
		yield(token{kind: end, line: line})
	}
}

// first returns the token with which a source begins.
func first(s string) token {
	if n := run(s, 'a', 'z'); n > 0 {
		return token{kind: name, text: s[:n]}
	}
	if n := run(s, '0', '9'); n > 0 {
		if n > mostDigits || (n > 1 && s[0] == '0') {
			return token{kind: bad}
		}
		return token{kind: number, text: s[:n]}
	}
	if strings.IndexByte(signs, s[0]) >= 0 {
		return token{kind: s[0], text: s[:1]}
	}
	return token{kind: bad}
}

// run returns how many bytes at the beginning are from one to another one.
func run(s string, low, high byte) int {
	n := 0
	for n < len(s) && s[n] >= low && s[n] <= high {
		n++
	}
	return n
}
