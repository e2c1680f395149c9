// Package term is layer 1: first-order terms, which it unifies, matches, generalizes and orders. See shared/doc/01-term.md.
package term

import (
	"strings"

	"forcola/api"
)

// Bind is a variable and what it is bound to.
type Bind struct {
	Var, Term string
}

// Check returns ErrLong or ErrTerm for the first of the terms that is none, and ErrArity if all together use a name with different numbers of arguments.
func Check(terms ...string) api.Errno {
	known := arities{}
	agree := true
	for _, s := range terms {
		if len(s) > api.MaxTerm {
			return api.ErrLong
		}
		n, ok := parse(s)
		if !ok {
			return api.ErrTerm
		}
		// A later term may still have an error that comes first.
		agree = agree && known.agree(n)
	}
	if !agree {
		return api.ErrArity
	}
	return api.OK
}

// Vars returns the variables of s, each once, in the order of their first occurrences.
func Vars(s string) (string, api.Errno) {
	terms, e := read(s)
	if e != api.OK {
		return "", e
	}
	var b strings.Builder
	for v := range variables(terms...) {
		b.WriteString(v.text())
	}
	return b.String(), api.OK
}

// Size returns the number of occurrences of variables and names in s.
func Size(s string) (int, api.Errno) {
	terms, e := read(s)
	if e != api.OK {
		return 0, e
	}
	n := 0
	for range parts(terms[0]) {
		n++
	}
	return n, api.OK
}

// Apply returns the image of s under u.
func Apply(s string, u []Bind) (string, api.Errno) {
	if e := Check(withTerms(u, s)...); e != api.OK {
		return "", e
	}
	b, ok := newSubstitution(u)
	if !ok {
		return "", api.ErrArg
	}
	terms, e := read(s)
	if e != api.OK {
		return "", e
	}
	image := b.image(terms[0])
	if isLarge(image) {
		return "", api.ErrLarge
	}
	return image.text(), api.OK
}

// Canon returns the canonical variant of s.
func Canon(s string) (string, api.Errno) {
	terms, e := read(s)
	if e != api.OK {
		return "", e
	}
	renaming := substitution{}
	for v := range variables(terms...) {
		renaming[v] = letter(len(renaming))
	}
	return renaming.image(terms[0]).text(), api.OK
}

// Match returns the substitution of variables of s under which its image is t, if there is one.
func Match(s, t string) ([]Bind, bool, api.Errno) {
	terms, e := read(s, t)
	if e != api.OK {
		return nil, false, e
	}
	b := substitution{}
	if !b.match(terms[0], terms[1]) {
		return nil, false, api.OK
	}
	return b.list(), true, api.OK
}

// Unify returns a most general unifier of s and t, if there is one.
func Unify(s, t string) ([]Bind, bool, api.Errno) {
	terms, e := read(s, t)
	if e != api.OK {
		return nil, false, e
	}
	m := merged{}
	if !m.merge(terms[0], terms[1]) || !m.isFinite(terms[0]) {
		return nil, false, api.OK
	}
	u, ok := m.solve(terms...)
	if !ok {
		return nil, false, api.ErrLarge
	}
	return u.list(), true, api.OK
}

// IsUnifier reports whether u is a substitution under which s and t have the same image, however large that is.
func IsUnifier(s, t string, u []Bind) bool {
	if Check(withTerms(u, s, t)...) != api.OK {
		return false
	}
	b, ok := newSubstitution(u)
	if !ok {
		return false
	}
	terms, e := read(s, t)
	if e != api.OK {
		return false
	}
	left, right := b.image(terms[0]), b.image(terms[1])
	return left.text() == right.text()
}

// Generalize returns the generalization of s and t.
func Generalize(s, t string) (string, api.Errno) {
	terms, e := read(s, t)
	if e != api.OK {
		return "", e
	}
	n, count := generalize(terms[0], terms[1])
	if count > letters {
		return "", api.ErrArg
	}
	return n.text(), api.OK
}

// Greater reports whether s is greater than t in the path order of the precedence.
func Greater(order []string, s, t string) (bool, api.Errno) {
	terms, e := read(s, t)
	if e != api.OK {
		return false, e
	}
	rank := map[string]int{}
	for i, name := range order {
		if _, twice := rank[name]; twice || !isName(name) {
			return false, api.ErrArg
		}
		rank[name] = i
	}
	for _, name := range namesOf(terms...) {
		if _, ok := rank[name]; !ok {
			return false, api.ErrArg
		}
	}
	return byRank(rank).greater(terms[0], terms[1]).has(0), api.OK
}

// Orient returns a precedence of the rules' names in whose path order the first term of each rule is greater than the second one, if there is one.
func Orient(rules [][2]string) ([]string, bool, api.Errno) {
	if len(rules) > maxRules {
		return nil, false, api.ErrLong
	}
	var texts []string
	for _, r := range rules {
		texts = append(texts, r[0], r[1])
	}
	terms, e := read(texts...)
	if e != api.OK {
		return nil, false, e
	}
	names := namesOf(terms...)
	if len(names) > maxNames {
		return nil, false, api.ErrArg
	}
	orders := precedences(names)
	fits := fitting(orders, terms)
	for i, order := range orders {
		if fits.has(i) {
			return order, true, api.OK
		}
	}
	return nil, false, api.OK
}
