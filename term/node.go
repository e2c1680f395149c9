package term

import (
	"iter"
	"strings"
)

const (
	maxLevels = 20
	maxName   = 6 // letters of a name
)

// A node is a term that was read: a variable or a call.
type node interface {
	text() string // as it is written: equal terms are those with equal texts
	levels() int
}

// A variable is its letter.
type variable string

func (v variable) text() string { return string(v) }

func (v variable) levels() int { return 1 }

// letters is how many variables there are.
const letters = 26

// letter is the variable with the number i, from 0 on; from 26 on it is none.
func letter(i int) variable {
	return variable(string(rune('A' + i)))
}

// A call is a name with its arguments; a name alone has none.
type call struct {
	name    string
	args    []node
	written string
	depth   int
}

func (c *call) text() string { return c.written }

func (c *call) levels() int { return c.depth }

// newCall writes the text at once, since equality, memory and limits all ask for it.
func newCall(name string, args []node) *call {
	if len(args) == 0 {
		return &call{name: name, written: name, depth: 1}
	}
	var b strings.Builder
	b.WriteString(name)
	deepest, before := 0, byte('(')
	for _, a := range args {
		b.WriteByte(before)
		b.WriteString(a.text())
		deepest, before = max(deepest, a.levels()), ','
	}
	b.WriteByte(')')
	return &call{name: name, args: args, written: b.String(), depth: deepest + 1}
}

// parts yields n and the terms within it, each before its arguments and those from left to right.
func parts(n node) iter.Seq[node] {
	return func(yield func(node) bool) {
		yieldParts(n, yield)
	}
}

func yieldParts(n node, yield func(node) bool) bool {
	if !yield(n) {
		return false
	}
	if c, ok := n.(*call); ok {
		for _, a := range c.args {
			if !yieldParts(a, yield) {
				return false
			}
		}
	}
	return true
}

// variables yields the variables of the terms, each once, in the order of their first occurrences.
func variables(terms ...node) iter.Seq[variable] {
	return func(yield func(variable) bool) {
		seen := map[variable]bool{}
		for _, n := range terms {
			for part := range parts(n) {
				v, ok := part.(variable)
				if !ok || seen[v] {
					continue
				}
				seen[v] = true
				if !yield(v) {
					return
				}
			}
		}
	}
}

// sameName returns s and t as calls, if they are calls of one name.
func sameName(s, t node) (x, y *call, ok bool) {
	x, ok = s.(*call)
	if !ok {
		return nil, nil, false
	}
	y, ok = t.(*call)
	if !ok || x.name != y.name {
		return nil, nil, false
	}
	return x, y, true
}

// pairs yields the arguments of x and y position by position. Both have the same name, and so the same number of them.
func pairs(x, y *call) iter.Seq2[node, node] {
	return func(yield func(node, node) bool) {
		for i, a := range x.args {
			if !yield(a, y.args[i]) {
				return
			}
		}
	}
}
