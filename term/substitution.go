package term

import "forcola/api"

// A substitution has the term of each variable that it binds.
type substitution map[variable]node

// newSubstitution reads u, or returns false if u is no substitution.
func newSubstitution(u []Bind) (substitution, bool) {
	b := substitution{}
	last := ""
	for _, x := range u {
		n, ok := parse(x.Term)
		if !ok || !isVariable(x.Var) || x.Var <= last || x.Term == x.Var {
			return nil, false
		}
		b[variable(x.Var)] = n
		last = x.Var
	}
	return b, true
}

// withTerms is first and then the terms of u: the order in which they are checked.
func withTerms(u []Bind, first ...string) []string {
	var terms []string
	terms = append(terms, first...)
	for _, x := range u {
		terms = append(terms, x.Term)
	}
	return terms
}

// list has the bindings in rising order, without those of a variable to itself.
func (b substitution) list() []Bind {
	var l []Bind
	for i := range letters {
		v := letter(i)
		if n, ok := b[v]; ok && n.text() != v.text() {
			l = append(l, Bind{Var: v.text(), Term: n.text()})
		}
	}
	return l
}

// image replaces all bound variables of n at the same time; it may be too large for a term.
func (b substitution) image(n node) node {
	switch x := n.(type) {
	case variable:
		if bound, ok := b[x]; ok {
			return bound
		}
	case *call:
		args := make([]node, len(x.args))
		for i, a := range x.args {
			args[i] = b.image(a)
		}
		return newCall(x.name, args)
	}
	return n
}

// match binds the variables of s so that its image is t, as far as they are not bound yet.
func (b substitution) match(s, t node) bool {
	switch x := s.(type) {
	case variable:
		if bound, ok := b[x]; ok {
			return bound.text() == t.text()
		}
		b[x] = t
		return true
	case *call:
		_, y, ok := sameName(x, t)
		if !ok {
			return false
		}
		for a, c := range pairs(x, y) {
			if !b.match(a, c) {
				return false
			}
		}
		return true
	}
	return false
}

// isLarge reports whether n goes beyond a term's limits.
func isLarge(n node) bool {
	return len(n.text()) > api.MaxTerm || n.levels() > maxLevels
}
