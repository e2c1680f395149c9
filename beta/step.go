package beta

import (
	"iter"
	"strings"

	"forcola/api"
)

// A hole is a part of a term or of a combinator, with what puts another part in its place.
type hole[T any] struct {
	part T
	fill func(T) T
}

// A calculus is what first steps need to know: of terms, or of combinators.
type calculus[T any] struct {
	limits   size
	measure  func(T) size
	contract func(T) (T, bool) // what a redex itself becomes
	holes    func(T) []hole[T]
	write    func(*strings.Builder, T)
}

// firstStep returns what n becomes by the first step, if there is one. The bracket of a redex comes before those within it.
func firstStep[T any](c calculus[T], n T) (T, bool) {
	if c.measure(n).redexes == 0 {
		return n, false
	}
	if after, ok := c.contract(n); ok {
		return after, true
	}
	for _, h := range c.holes(n) {
		if after, ok := firstStep(c, h.part); ok {
			return h.fill(after), true
		}
	}
	return n, false
}

// check leaves if n is too large.
func (c calculus[T]) check(n T) {
	s := c.measure(n)
	if s.bytes > c.limits.bytes || s.levels > c.limits.levels {
		panic(api.ErrLarge)
	}
}

// text returns n as a string, and leaves if n is too large.
func (c calculus[T]) text(n T) string {
	c.check(n)
	var b strings.Builder
	c.write(&b, n)
	return b.String()
}

// An outcome is what first steps led to.
type outcome struct {
	text   string
	steps  int
	normal bool
}

// reduce does first steps until there is none to do, or most are done; it leaves if something on the way is too large.
func reduce[T any](c calculus[T], n T, most int) outcome {
	steps := 0
	for steps < most {
		after, ok := firstStep(c, n)
		if !ok {
			break
		}
		c.check(after)
		n = after
		steps++
	}
	return outcome{c.text(n), steps, c.measure(n).redexes == 0}
}

// all yields n and all that it consists of, in the order of the text.
func all[T any](c calculus[T], n T) iter.Seq[T] {
	return func(yield func(T) bool) {
		visit(c, n, yield)
	}
}

// visit reports whether all of n has been yielded.
func visit[T any](c calculus[T], n T, yield func(T) bool) bool {
	if !yield(n) {
		return false
	}
	for _, h := range c.holes(n) {
		if !visit(c, h.part, yield) {
			return false
		}
	}
	return true
}
