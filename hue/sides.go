package hue

import (
	"slices"
)

// A forest has for each vertex how far it is from the least vertex of its connected part, and the vertex before it on a shortest way from there (of the least vertex itself).
type forest struct {
	depth, before [maxVertices]int
}

func (g graph) forest() forest {
	var f forest
	reached := set(0)
	for root := range g.n {
		if reached.has(root) {
			continue
		}
		reached |= single(root)
		f.before[root] = root
		for queue := []int{root}; len(queue) > 0; queue = queue[1:] {
			v := queue[0]
			for w := range (g.near[v] &^ reached).each() {
				reached |= single(w)
				f.before[w], f.depth[w] = v, f.depth[v]+1
				queue = append(queue, w)
			}
		}
	}
	return f
}

// levelEdge is an edge of two vertices of the same depth, if there is one.
func (g graph) levelEdge(f forest) (edge, bool) {
	at := slices.IndexFunc(g.edges, func(e edge) bool { return f.depth[e.i] == f.depth[e.j] })
	if at < 0 {
		return edge{}, false
	}
	return g.edges[at], true
}

// sides returns the side of the least vertices of the connected parts, if the graph has two sides. Depths of vertices that have an edge differ by one at most, so that only edges of the same depth do not change sides.
func (g graph) sides() (set, bool) {
	f := g.forest()
	if _, ok := g.levelEdge(f); ok {
		return 0, false
	}
	side := set(0)
	for v := range g.n {
		if f.depth[v]%2 == 0 {
			side |= single(v)
		}
	}
	return side, true
}

// oddRing goes from an edge of the same depth on both ways back to where they come together, if there is such an edge.
func (g graph) oddRing() ([]int, bool) {
	f := g.forest()
	e, ok := g.levelEdge(f)
	if !ok {
		return nil, false
	}
	var there, back []int
	v, w := e.i, e.j
	for v != w {
		there, back = append(there, v), append(back, w)
		v, w = f.before[v], f.before[w]
	}
	slices.Reverse(back)
	return slices.Concat(there, []int{v}, back), true
}
