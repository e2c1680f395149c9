package part

import (
	"iter"
	"math/bits"
	"slices"

	"forcola/api"
)

// maxVertices is the limit of a graph's vertices.
const maxVertices = 16

// A set of vertices is a word whose bits they are.
type vertices uint

// single is the set of v alone.
func single(v int) vertices { return 1 << v }

func (s vertices) has(v int) bool { return s>>v&1 == 1 }

func (s vertices) size() int { return bits.OnesCount(uint(s)) }

// least is the least vertex of s, which is not empty.
func (s vertices) least() int { return bits.TrailingZeros(uint(s)) }

// isWithin reports whether t has all vertices of s.
func (s vertices) isWithin(t vertices) bool { return s&^t == 0 }

// each yields the vertices of s, rising.
func (s vertices) each() iter.Seq[int] {
	return func(yield func(int) bool) {
		for rest := s; rest != 0; rest &= rest - 1 {
			if !yield(rest.least()) {
				return
			}
		}
	}
}

// numbers are the sets as numbers.
func numbers(sets []vertices) []int {
	list := make([]int, len(sets))
	for i, s := range sets {
		list[i] = int(s)
	}
	return list
}

// A graph has for each vertex those to which that has an edge.
type graph struct {
	n    int
	near [maxVertices]vertices
}

// read returns the graph of n vertices that has the edges, or the error that Check returns.
func read(n int, edges [][2]int) (graph, api.Errno) {
	if n < 1 || n > maxVertices {
		return graph{}, api.ErrArg
	}
	g := graph{n: n}
	for at, edge := range edges {
		i, j := edge[0], edge[1]
		if i < 0 || i >= j || j >= n {
			return graph{}, api.ErrGraph
		}
		if at > 0 && slices.Compare(edges[at-1][:], edge[:]) >= 0 {
			return graph{}, api.ErrGraph
		}
		g.join(single(i), single(j))
	}
	return g, api.OK
}

// join adds the edges between the vertices of s and those of t.
func (g *graph) join(s, t vertices) {
	for v := range s.each() {
		g.near[v] |= t
	}
	for v := range t.each() {
		g.near[v] |= s
	}
}

// all is the set of all vertices.
func (g graph) all() vertices { return single(g.n) - 1 }

// pairs yields all pairs of vertices, in rising order of lists.
func (g graph) pairs() iter.Seq2[int, int] {
	return func(yield func(int, int) bool) {
		for i := range g.n {
			for j := i + 1; j < g.n; j++ {
				if !yield(i, j) {
					return
				}
			}
		}
	}
}

func (g graph) edges() [][2]int {
	var list [][2]int
	for i, j := range g.pairs() {
		if g.near[i].has(j) {
			list = append(list, [2]int{i, j})
		}
	}
	return list
}

func (g graph) complement() graph {
	other := graph{n: g.n}
	for v := range g.n {
		other.near[v] = g.all() &^ g.near[v] &^ single(v)
	}
	return other
}

// isConnected reports whether edges between vertices of s, which is not empty, lead from one of them to all of them.
func (g graph) isConnected(s vertices) bool {
	reached := single(s.least())
	for before := vertices(0); reached != before; {
		before = reached
		for v := range before.each() {
			reached |= g.near[v] & s
		}
	}
	return reached == s
}
