package hue

import (
	"iter"
)

// fewest paints all edges with as few hues as can be: Vizing's are one more at most.
func (g graph) fewest() []int {
	p := g.blank()
	if p.divide(g, g.degree()) {
		return p.hues()
	}
	return g.vizing()
}

// divide paints the edges of rest with hues less than count, if it can: one matching after the other gets the greatest hue that is left.
func (p *painting) divide(rest graph, count int) bool {
	if rest.hasTooMany(count) {
		return false
	}
	if count == 0 {
		return true
	}
	for matching := range rest.matchings(count) {
		if p.divide(rest.without(matching), count-1) {
			for _, e := range matching {
				p.paint(e, count-1)
			}
			return true
		}
	}
	return false
}

// hasTooMany reports whether some vertex, or some set of vertices, has more edges than so many matchings can have there.
func (g graph) hasTooMany(matchings int) bool {
	if g.degree() > matchings {
		return true
	}
	for s := range g.all() + 1 {
		ends := 0
		for v := range s.each() {
			ends += (g.near[v] & s).size()
		}
		if ends/2 > matchings*(s.size()/2) {
			return true
		}
	}
	return false
}

// matchings yields lists of edges that do not meet, with one at each vertex that has most edges: all these lists, beginning with long ones. A list holds only until the next one.
func (g graph) matchings(most int) iter.Seq[[]edge] {
	return func(yield func([]edge) bool) {
		var extend func(chosen []edge, open set) bool
		extend = func(chosen []edge, open set) bool {
			if open == 0 {
				return yield(chosen)
			}
			v := open.least()
			open &^= single(v)
			for w := range (g.near[v] & open).each() {
				if !extend(append(chosen, between(v, w)), open&^single(w)) {
					return false
				}
			}
			return g.near[v].size() == most || extend(chosen, open)
		}
		extend(nil, g.all())
	}
}

// without is the graph without those edges, as far as its vertices know them.
func (g graph) without(edges []edge) graph {
	for _, e := range edges {
		g.near[e.i] &^= single(e.j)
		g.near[e.j] &^= single(e.i)
	}
	return g
}
