package term_test

import (
	"math/rand"
	"slices"
	"strings"
	"testing"

	"forcola/api"
	"forcola/term"
)

// A tree is a term as the chapter defines it, for slow and plain comparisons with the package.
type tree struct {
	head string
	args []tree
}

func (x tree) isVariable() bool { return x.head[0] <= 'Z' }

func (x tree) String() string {
	if len(x.args) == 0 {
		return x.head
	}
	var l []string
	for _, a := range x.args {
		l = append(l, a.String())
	}
	return x.head + "(" + strings.Join(l, ",") + ")"
}

// treeOf splits a right term at the commas of its first level.
func treeOf(s string) tree {
	at := strings.IndexByte(s, '(')
	if at < 0 {
		return tree{head: s}
	}
	x := tree{head: s[:at]}
	open, begin := 0, at+1
	for i := at + 1; i < len(s); i++ {
		switch {
		case s[i] == '(':
			open++
		case open == 0 && (s[i] == ',' || s[i] == ')'):
			x.args = append(x.args, treeOf(s[begin:i]))
			begin = i + 1
		case s[i] == ')':
			open--
		}
	}
	return x
}

func (x tree) replace(v string, by tree) tree {
	if x.head == v {
		return by
	}
	out := tree{head: x.head}
	for _, a := range x.args {
		out.args = append(out.args, a.replace(v, by))
	}
	return out
}

func (x tree) has(v string) bool {
	return strings.Contains(x.String(), v)
}

// unifiable is the textbook's procedure: equations are split, and variables replaced everywhere.
func unifiable(s, t string) bool {
	work := [][2]tree{{treeOf(s), treeOf(t)}}
	for len(work) > 0 {
		a, b := work[0][0], work[0][1]
		work = work[1:]
		if b.isVariable() {
			a, b = b, a
		}
		switch {
		case a.String() == b.String():
		case a.isVariable():
			if b.has(a.head) {
				return false
			}
			for i := range work {
				work[i][0], work[i][1] = work[i][0].replace(a.head, b), work[i][1].replace(a.head, b)
			}
		case a.head != b.head:
			return false
		default:
			for i := range a.args {
				work = append(work, [2]tree{a.args[i], b.args[i]})
			}
		}
	}
	return true
}

// above is the path order, case by case as the chapter defines it.
func above(order []string, s, t tree) bool {
	if s.isVariable() {
		return false
	}
	if t.isVariable() {
		return s.has(t.head)
	}
	for _, a := range s.args {
		if a.String() == t.String() || above(order, a, t) {
			return true
		}
	}
	for _, b := range t.args {
		if !above(order, s, b) {
			return false
		}
	}
	if s.head != t.head {
		return slices.Index(order, s.head) < slices.Index(order, t.head)
	}
	for i := range s.args {
		if s.args[i].String() != t.args[i].String() {
			return above(order, s.args[i], t.args[i])
		}
	}
	return false
}

// orders are all lists of the names.
func orders(names []string) [][]string {
	if len(names) == 0 {
		return [][]string{nil}
	}
	var out [][]string
	for i, name := range names {
		rest := slices.Concat(names[:i], names[i+1:])
		for _, l := range orders(rest) {
			out = append(out, append([]string{name}, l...))
		}
	}
	return out
}

// A maker makes terms of the given letters and names.
type maker struct {
	*rand.Rand
	vars  string
	names []string // each with a digit, the number of its arguments
}

func newMaker(seed int64, vars string, names ...string) maker {
	return maker{rand.New(rand.NewSource(seed)), vars, names}
}

func (m maker) term(levels int) string {
	k := m.Intn(len(m.vars) + len(m.names))
	if k < len(m.vars) {
		return m.vars[k : k+1]
	}
	name := m.names[k-len(m.vars)]
	count := int(name[len(name)-1] - '0')
	name = name[:len(name)-1]
	if count == 0 || levels == 1 && m.vars == "" {
		return m.leaf()
	}
	if levels == 1 {
		return m.vars[:1]
	}
	var args []string
	for range count {
		args = append(args, m.term(levels-1))
	}
	return name + "(" + strings.Join(args, ",") + ")"
}

// leaf is a name without arguments.
func (m maker) leaf() string {
	for {
		name := m.names[m.Intn(len(m.names))]
		if strings.HasSuffix(name, "0") {
			return name[:len(name)-1]
		}
	}
}

// substitution binds some of the letters.
func (m maker) substitution(letters string, levels int) []term.Bind {
	var u []term.Bind
	for _, v := range letters {
		if s := m.term(levels); s != string(v) && m.Intn(4) > 0 {
			u = append(u, term.Bind{Var: string(v), Term: s})
		}
	}
	return u
}

// binds are bindings.
func binds(l ...string) []term.Bind {
	var u []term.Bind
	for i := 0; i < len(l); i += 2 {
		u = append(u, term.Bind{Var: l[i], Term: l[i+1]})
	}
	return u
}

// flat is a term of so many bytes (at least 5), of two levels.
func flat(head string, bytes int) string {
	room := bytes - len(head) - 3
	return head + "(" + strings.Repeat("a,", room/2) + strings.Repeat("b", room%2+1) + ")"
}

// deep is a term of so many levels.
func deep(levels int, bottom string) string {
	return strings.Repeat("s(", levels-1) + bottom + strings.Repeat(")", levels-1)
}

// apply is Apply where it has to succeed.
func apply(t *testing.T, s string, u []term.Bind) string {
	t.Helper()
	image, e := term.Apply(s, u)
	if e != api.OK {
		t.Fatalf("Apply of %v to %s: %d", u, s, e)
	}
	return image
}

// isMoreGeneral reports whether t is an image of s.
func isMoreGeneral(t *testing.T, s, u string) bool {
	t.Helper()
	_, ok, e := term.Match(s, u)
	if e != api.OK {
		t.Fatalf("Match of %s and %s: %d", s, u, e)
	}
	return ok
}
