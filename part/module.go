package part

import (
	"iter"
	"maps"
	"slices"
)

// splitters are the vertices outside s that have edges to some of it only.
func (g graph) splitters(s vertices) vertices {
	found := vertices(0)
	for v := range (g.all() &^ s).each() {
		seen := g.near[v] & s
		if seen != 0 && seen != s {
			found |= single(v)
		}
	}
	return found
}

func (g graph) isModule(s vertices) bool {
	return s != 0 && g.splitters(s) == 0
}

// modules are all modules, rising.
func (g graph) modules() []vertices {
	var found []vertices
	for s := vertices(1); s <= g.all(); s++ {
		if g.isModule(s) {
			found = append(found, s)
		}
	}
	return found
}

// leastModule is the least module that contains s, which is not empty: a vertex that splits a part of a module is in it.
func (g graph) leastModule(s vertices) vertices {
	for {
		more := g.splitters(s)
		if more == 0 {
			return s
		}
		s |= more
	}
}

// leastModules are the least modules of each vertex and of each pair, rising.
func (g graph) leastModules() []vertices {
	found := map[vertices]bool{}
	for v := range g.n {
		found[single(v)] = true
	}
	for i, j := range g.pairs() {
		found[g.leastModule(single(i)|single(j))] = true
	}
	return slices.Sorted(maps.Keys(found))
}

// overlapping yields the pairs of sets that have a vertex in common, and neither of which is within the other.
func overlapping(sets []vertices) iter.Seq2[vertices, vertices] {
	return func(yield func(a, b vertices) bool) {
		for i, a := range sets {
			for _, b := range sets[:i] {
				apart := a&b == 0 || a.isWithin(b) || b.isWithin(a)
				if !apart && !yield(a, b) {
					return
				}
			}
		}
	}
}

// strong are all strong modules, rising. There may be too many modules to compare each with each, so it uses the least modules of pairs only.
// That of two vertices from different parts of a strong module is either this whole module, which overlaps with nothing, or, where any of its parts make a module, the two parts; such pairs of parts overlap, and joined they are the whole.
func (g graph) strong() []vertices {
	least := g.leastModules()
	joined := map[vertices]vertices{}
	for _, s := range least {
		joined[s] = s
	}
	for changed := true; changed; {
		changed = false
		for a, b := range overlapping(least) {
			both := joined[a] | joined[b]
			changed = changed || joined[a] != both || joined[b] != both
			joined[a], joined[b] = both, both
		}
	}
	return slices.Compact(slices.Sorted(maps.Values(joined)))
}
