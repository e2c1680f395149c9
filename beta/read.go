package beta

import (
	"strings"

	"forcola/api"
)

// The limits of lambda terms.
const (
	maxTerm       = api.MaxTerm
	maxTermLevels = 100
)

// A cursor is what is left to be read, and the error by which it leaves where that cannot be read.
type cursor struct {
	rest  string
	wrong api.Errno
}

// skip goes past sign, if that is next.
func (c *cursor) skip(sign string) bool {
	rest, ok := strings.CutPrefix(c.rest, sign)
	c.rest = rest
	return ok
}

// want goes past sign, which has to be next.
func (c *cursor) want(sign string) {
	if !c.skip(sign) {
		panic(c.wrong)
	}
}

// end leaves if something is left.
func (c *cursor) end() {
	if c.rest != "" {
		panic(c.wrong)
	}
}

// next goes past one byte.
func (c *cursor) next() byte {
	if c.rest == "" {
		panic(c.wrong)
	}
	b := c.rest[0]
	c.rest = c.rest[1:]
	return b
}

// letter goes past a letter.
func (c *cursor) letter() byte {
	b := c.next()
	if !isLetter(b) {
		panic(c.wrong)
	}
	return b
}

// deeper is how many levels are left within a part.
func (c *cursor) deeper(levels int) int {
	if levels == 0 {
		panic(c.wrong)
	}
	return levels - 1
}

func isLetter(b byte) bool { return 'a' <= b && b <= 'z' }

func isDigit(b byte) bool { return '0' <= b && b <= '9' }

// readPair reads an application after its bracket.
func readPair[T any](c *cursor, part func() T) pair[T] {
	left := part()
	c.want(" ")
	right := part()
	c.want(")")
	return pair[T]{left, right}
}

// readForm reads s as a form.
func readForm(s string) node {
	if len(s) > maxForm {
		panic(api.ErrLong)
	}
	c := cursor{s, api.ErrLambda}
	n := c.form(0, maxLevels)
	c.end()
	return n
}

// form reads a form within that many abstractions, of at most that many levels.
func (c *cursor) form(abstractions, levels int) node {
	switch b := c.next(); {
	case isLetter(b):
		return letter(b)
	case isDigit(b):
		return c.number(b, abstractions)
	case b == '\\':
		return newAbstraction(c.form(abstractions+1, c.deeper(levels)))
	case b == '(':
		inside := c.deeper(levels)
		return newApplication(readPair(c, func() node { return c.form(abstractions, inside) }))
	}
	panic(c.wrong)
}

// number reads a number after its first digit.
func (c *cursor) number(first byte, abstractions int) node {
	value := int(first - '0')
	for c.rest != "" && isDigit(c.rest[0]) {
		// A number that is too great here remains so, and a 0 has no digit after it.
		if value == 0 || value >= abstractions {
			panic(c.wrong)
		}
		digit := c.next()
		value = 10*value + int(digit-'0')
	}
	if value >= abstractions {
		panic(c.wrong)
	}
	return number(value)
}

// readLambda reads s as a lambda term.
func readLambda(s string) node {
	if len(s) > maxTerm {
		panic(api.ErrLong)
	}
	c := cursor{s, api.ErrLambda}
	n := c.lambda("", maxTermLevels)
	c.end()
	return n
}

// lambda reads a lambda term within abstractions of the letters bound, the innermost one last.
func (c *cursor) lambda(bound string, levels int) node {
	if c.skip(`\`) {
		inside := c.deeper(levels)
		binder := c.letter()
		c.want(".")
		return newAbstraction(c.lambda(bound+string(binder), inside))
	}
	n := c.atom(bound, levels)
	for c.rest != "" && c.rest[0] != ')' {
		argument := c.atom(bound, levels)
		n = newApplication(pair[node]{n, argument})
	}
	return n
}

// atom reads a letter or a term in brackets.
func (c *cursor) atom(bound string, levels int) node {
	if c.skip("(") {
		n := c.lambda(bound, c.deeper(levels))
		c.want(")")
		return n
	}
	b := c.letter()
	at := strings.LastIndexByte(bound, b)
	if at < 0 {
		return letter(b)
	}
	return number(len(bound) - 1 - at)
}

// readCombinator reads c as a combinator.
func readCombinator(s string) *comb {
	if len(s) > maxComb {
		panic(api.ErrLong)
	}
	c := cursor{s, api.ErrComb}
	x := c.combinator(maxCombLevels)
	c.end()
	return x
}

// combinator reads a combinator of at most that many levels.
func (c *cursor) combinator(levels int) *comb {
	switch b := c.next(); {
	case b == '(':
		inside := c.deeper(levels)
		return newPair(readPair(c, func() *comb { return c.combinator(inside) }))
	case b == 'S':
		return &comb{kind: basicS}
	case b == 'K':
		return &comb{kind: basicK}
	case b == 'I':
		return &comb{kind: basicI}
	case isLetter(b):
		return &comb{kind: free, name: int(b)}
	}
	panic(c.wrong)
}
