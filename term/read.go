package term

import (
	"strings"

	"forcola/api"
)

// isVariable reports whether s is one capital letter.
func isVariable(s string) bool {
	return len(s) == 1 && 'A' <= s[0] && s[0] <= 'Z'
}

// isName reports whether s is 1 to 6 small letters.
func isName(s string) bool {
	return 1 <= len(s) && len(s) <= maxName && smallLetters(s) == len(s)
}

// smallLetters is how many small letters s begins with.
func smallLetters(s string) int {
	for i, r := range s {
		if r < 'a' || 'z' < r {
			return i
		}
	}
	return len(s)
}

// A cursor is what is left to be read.
type cursor struct {
	rest string
}

// skip goes past sign, if that is next.
func (c *cursor) skip(sign string) bool {
	rest, ok := strings.CutPrefix(c.rest, sign)
	c.rest = rest
	return ok
}

// take goes past the next n bytes and returns them.
func (c *cursor) take(n int) string {
	taken := c.rest[:n]
	c.rest = c.rest[n:]
	return taken
}

// term reads a term of at most that many levels.
func (c *cursor) term(levels int) (node, bool) {
	if levels == 0 || c.rest == "" {
		return nil, false
	}
	if isVariable(c.rest[:1]) {
		return variable(c.take(1)), true
	}
	name := c.take(smallLetters(c.rest))
	if !isName(name) {
		return nil, false
	}
	if !c.skip("(") {
		return newCall(name, nil), true
	}
	args, ok := c.arguments(levels - 1)
	if !ok {
		return nil, false
	}
	return newCall(name, args), true
}

// arguments reads terms up to and with the closing bracket.
func (c *cursor) arguments(levels int) ([]node, bool) {
	var args []node
	for {
		a, ok := c.term(levels)
		if !ok {
			return nil, false
		}
		args = append(args, a)
		if c.skip(")") {
			return args, true
		}
		if !c.skip(",") {
			return nil, false
		}
	}
}

// parse reads s, whatever its length, as a term. It reads a copy: parts of what it reads become results, which share no memory with arguments.
func parse(s string) (node, bool) {
	c := cursor{rest: strings.Clone(s)}
	n, ok := c.term(maxLevels)
	if !ok || c.rest != "" {
		return nil, false
	}
	return n, true
}

// arities are the numbers of arguments with which names have been used.
type arities map[string]int

// agree takes in the names of n, and reports whether each has the number of arguments that it had before.
func (a arities) agree(n node) bool {
	for part := range parts(n) {
		c, ok := part.(*call)
		if !ok {
			continue
		}
		count, known := a[c.name]
		if known && count != len(c.args) {
			return false
		}
		a[c.name] = len(c.args)
	}
	return true
}

// read returns the terms as nodes, or the error that Check returns for them.
func read(terms ...string) ([]node, api.Errno) {
	if e := Check(terms...); e != api.OK {
		return nil, e
	}
	var nodes []node
	for _, s := range terms {
		if n, ok := parse(s); ok {
			nodes = append(nodes, n)
		}
	}
	return nodes, api.OK
}
