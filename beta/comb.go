package beta

import "strings"

// The limits of combinators.
const (
	maxComb       = 5000
	maxCombLevels = 1000
)

// A kind says what a combinator is.
type kind int

const (
	basicS kind = iota
	basicK
	basicI
	free    // a letter
	bound   // a variable of a term, before it is taken out
	applied // one combinator to another one
	none    // no combinator at all
)

// A comb is a combinator. Its name is a letter, or the number of abstractions around the one that binds it.
type comb struct {
	kind kind
	name int
	pair[*comb]
	size size
}

func newPair(p pair[*comb]) *comb {
	c := &comb{kind: applied, pair: p, size: within(len("( )"), p.left.measure(), p.right.measure())}
	if c.rule() != none {
		c.size.redexes++
	}
	return c
}

func apply(left, right *comb) *comb {
	return newPair(pair[*comb]{left, right})
}

func (c *comb) measure() size {
	if c.kind == applied {
		return c.size
	}
	return size{bytes: 1}
}

// rule is the basic combinator that makes c itself a redex.
func (c *comb) rule() kind {
	head, count := c, 0
	for head.kind == applied && count < 3 {
		head = head.left
		count++
	}
	switch {
	case head.kind == basicI && count == 1, head.kind == basicK && count == 2, head.kind == basicS && count == 3:
		return head.kind
	}
	return none
}

// weaken returns what c becomes if it is a redex itself.
func weaken(c *comb) (*comb, bool) {
	switch c.rule() {
	case basicI:
		return c.right, true
	case basicK:
		return c.left.right, true
	case basicS:
		p, q, r := c.left.left.right, c.left.right, c.right
		return apply(apply(p, r), apply(q, r)), true
	}
	return nil, false
}

// weak is the calculus of combinators.
func weak() calculus[*comb] {
	return calculus[*comb]{size{bytes: maxComb, levels: maxCombLevels}, (*comb).measure, weaken, combHoles, writeComb}
}

func combHoles(c *comb) []hole[*comb] {
	if c.kind != applied {
		return nil
	}
	return []hole[*comb]{
		{c.left, func(p *comb) *comb { return apply(p, c.right) }},
		{c.right, func(p *comb) *comb { return apply(c.left, p) }},
	}
}

func writeComb(b *strings.Builder, c *comb) {
	switch c.kind {
	case basicS:
		b.WriteByte('S')
	case basicK:
		b.WriteByte('K')
	case basicI:
		b.WriteByte('I')
	case free:
		b.WriteByte(byte(c.name))
	case applied:
		b.WriteByte('(')
		writeComb(b, c.left)
		b.WriteByte(' ')
		writeComb(b, c.right)
		b.WriteByte(')')
	}
}

// translate returns the translation of n, which lies within that many abstractions. Without a variable a combinator only grows: one that is too large leaves at once.
func translate(n node, depth int) *comb {
	switch n := n.(type) {
	case letter:
		return &comb{kind: free, name: int(n)}
	case number:
		return &comb{kind: bound, name: depth - 1 - int(n)}
	case *abstraction:
		body := translate(n.body, depth+1)
		weak().check(body)
		without, has := takeOut(depth, body)
		if !has {
			return apply(&comb{kind: basicK}, body)
		}
		return without
	case *application:
		left := translate(n.left, depth)
		right := translate(n.right, depth)
		return apply(left, right)
	}
	return nil
}

// takeOut returns c without the variable and true, or c itself and false if that is not free in c.
func takeOut(variable int, c *comb) (*comb, bool) {
	if c.kind == bound && c.name == variable {
		return &comb{kind: basicI}, true
	}
	if c.kind != applied {
		return c, false
	}
	left, inLeft := takeOut(variable, c.left)
	right, inRight := takeOut(variable, c.right)
	if !inLeft && !inRight {
		return c, false
	}
	if !inLeft {
		left = apply(&comb{kind: basicK}, left)
	}
	if !inRight {
		right = apply(&comb{kind: basicK}, right)
	}
	return apply(apply(&comb{kind: basicS}, left), right), true
}

// term returns the term of c.
func (c *comb) term() node {
	switch c.kind {
	case basicS:
		return readLambda(`\a.\b.\c.ac(bc)`)
	case basicK:
		return readLambda(`\a.\b.a`)
	case basicI:
		return readLambda(`\a.a`)
	case applied:
		return newApplication(pair[node]{c.left.term(), c.right.term()})
	}
	return letter(c.name)
}
