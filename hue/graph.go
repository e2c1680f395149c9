package hue

import (
	"iter"
	"math/bits"

	"forcola/api"
	"forcola/part"
)

// A set of vertices, of hues or of items is a word whose bits they are.
type set uint64

// single is the set of v alone.
func single(v int) set { return 1 << v }

func (s set) has(v int) bool { return s>>v&1 == 1 }

func (s set) size() int { return bits.OnesCount64(uint64(s)) }

// least is the least element of s, which is not empty.
func (s set) least() int { return bits.TrailingZeros64(uint64(s)) }

// each yields the elements of s, rising.
func (s set) each() iter.Seq[int] {
	return func(yield func(int) bool) {
		for rest := s; rest != 0; rest &= rest - 1 {
			if !yield(rest.least()) {
				return
			}
		}
	}
}

// An edge joins i to j, which is greater.
type edge struct{ i, j int }

// between is the edge between v and w.
func between(v, w int) edge { return edge{min(v, w), max(v, w)} }

func (e edge) has(v int) bool { return e.i == v || e.j == v }

// other is the vertex of e that is not v.
func (e edge) other(v int) int { return e.i + e.j - v }

// meets reports whether e, which is not f, has a vertex in common with it.
func (e edge) meets(f edge) bool { return e != f && (e.has(f.i) || e.has(f.j)) }

// A graph has its edges, and for each vertex those to which that has an edge.
type graph struct {
	n     int
	near  [maxVertices]set
	edges []edge
}

// read returns the graph of n vertices that has the edges, or the error that part.Check returns.
func read(n int, edges [][2]int) (graph, api.Errno) {
	if e := part.Check(n, edges); e != api.OK {
		return graph{}, e
	}
	g := graph{n: n}
	for _, pair := range edges {
		e := edge{pair[0], pair[1]}
		g.edges = append(g.edges, e)
		g.near[e.i] |= single(e.j)
		g.near[e.j] |= single(e.i)
	}
	return g, api.OK
}

// all is the set of all vertices.
func (g graph) all() set { return single(g.n) - 1 }

// edgesAt yields the edges at v.
func (g graph) edgesAt(v int) iter.Seq[edge] {
	return func(yield func(edge) bool) {
		for w := range g.near[v].each() {
			if !yield(between(v, w)) {
				return
			}
		}
	}
}

func (g graph) degree() int {
	most := 0
	for v := range g.n {
		most = max(most, g.near[v].size())
	}
	return most
}

// isProper reports whether edges that meet have different ones of the hues, one for each edge.
func (g graph) isProper(hues []int) bool {
	for a, e := range g.edges {
		for b, f := range g.edges[:a] {
			if e.meets(f) && hues[a] == hues[b] {
				return false
			}
		}
	}
	return true
}
