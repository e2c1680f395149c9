package hue

// order returns the order and the looseness.
func (g graph) order() ([]int, int) {
	order := make([]int, g.n)
	looseness := 0
	left := g.all()
	for at := g.n - 1; at >= 0; at-- {
		v := g.loosest(left)
		looseness = max(looseness, g.edgesTo(left, v))
		order[at] = v
		left &^= single(v)
	}
	return order, looseness
}

// edgesTo is the number of edges from v to vertices of s.
func (g graph) edgesTo(s set, v int) int {
	return (g.near[v] & s).size()
}

// loosest is the greatest of those vertices of s, which is not empty, that have the fewest edges to others of it.
func (g graph) loosest(s set) int {
	found := s.least()
	for v := range s.each() {
		if g.edgesTo(s, v) <= g.edgesTo(s, found) {
			found = v
		}
	}
	return found
}

// core drops vertices with fewer than k edges to those that are left, until there are none.
func (g graph) core(k int) set {
	left := g.all()
	for before := set(0); left != before; {
		before = left
		for v := range before.each() {
			if g.edgesTo(left, v) < k {
				left &^= single(v)
			}
		}
	}
	return left
}
