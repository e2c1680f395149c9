package term

// merged leads from the text of a term to a term that every unifier makes equal to it. Calls are kept as well as variables: so no two of them are compared twice, however often they occur.
type merged map[string]node

// leader is the last term to which n leads: it is a variable only if n can be anything.
func (m merged) leader(n node) node {
	for {
		next, ok := m[n.text()]
		if !ok {
			return n
		}
		n = next
	}
}

// merge makes s and t equal, or returns false if their names forbid it.
func (m merged) merge(s, t node) bool {
	s, t = m.leader(s), m.leader(t)
	if s.text() == t.text() {
		return true
	}
	if _, ok := t.(variable); ok {
		s, t = t, s
	}
	if _, ok := s.(variable); ok {
		m[s.text()] = t
		return true
	}
	x, y, ok := sameName(s, t)
	if !ok {
		return false
	}
	m[x.text()] = y
	for a, b := range pairs(x, y) {
		if !m.merge(a, b) {
			return false
		}
	}
	return true
}

// isFinite reports whether no term would have to contain itself. It looks at leaders: all that n consists of has one below that of n.
func (m merged) isFinite(n node) bool {
	open := map[string]bool{} // false for those that are done
	var visit func(n node) bool
	visit = func(n node) bool {
		n = m.leader(n)
		c, ok := n.(*call)
		if !ok {
			return true
		}
		if above, seen := open[c.text()]; seen {
			return !above
		}
		open[c.text()] = true
		for _, a := range c.args {
			if !visit(a) {
				return false
			}
		}
		open[c.text()] = false
		return true
	}
	return visit(n)
}

// solve returns the most general unifier that is found in m, for the variables of the terms, or false if a term of it is too large.
func (m merged) solve(terms ...node) (substitution, bool) {
	u := substitution{}
	for v := range variables(terms...) {
		n, ok := m.build(v)
		if !ok {
			return nil, false
		}
		u[v] = n
	}
	return u, true
}

// build replaces all in n by leaders. A unifier may have more bytes than there is memory for: so it gives up as soon as a part is too large.
func (m merged) build(n node) (node, bool) {
	n = m.leader(n)
	c, ok := n.(*call)
	if !ok {
		return n, true
	}
	var args []node
	for _, a := range c.args {
		part, ok := m.build(a)
		if !ok {
			return nil, false
		}
		args = append(args, part)
	}
	whole := newCall(c.name, args)
	return whole, !isLarge(whole)
}
