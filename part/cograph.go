package part

import (
	"slices"
	"strings"
)

// maxShape is the limit of the bytes of a shape that is read.
const maxShape = 100

// path finds a path of four, if there is one, by the edge in its middle.
func (g graph) path() (found [4]int, ok bool) {
search:
	for _, edge := range g.edges() {
		b, c := edge[0], edge[1]
		for a := range (g.near[b] &^ g.near[c] &^ single(c)).each() {
			for d := range (g.near[c] &^ g.near[b] &^ single(b)).each() {
				if !g.near[a].has(d) {
					found, ok = [4]int{a, b, c, d}, true
					break search
				}
			}
		}
	}
	return found, ok
}

// shape is the shape of a cograph's tree.
func (t Tree) shape() string {
	if t.Kind == Leaf {
		return "v"
	}
	var shapes []string
	for _, part := range t.Parts {
		shapes = append(shapes, part.shape())
	}
	slices.Sort(shapes)
	letter := "u"
	if t.Kind == Series {
		letter = "j"
	}
	return letter + "(" + strings.Join(shapes, "") + ")"
}

// A shapeReader reads a shape, and builds its graph.
type shapeReader struct {
	rest  string
	graph graph
}

// readShape returns the graph of the shape s, and whether s is a shape. What is written like one describes some cograph; it is the shape just if it is that cograph's.
func readShape(s string) (graph, bool) {
	r := shapeReader{rest: s}
	_, ok := r.tree()
	if !ok || r.rest != "" || r.graph.split().shape() != s {
		return graph{}, false
	}
	return r.graph, true
}

// take reports whether the rest begins with that text, and reads it if so.
func (r *shapeReader) take(text string) bool {
	rest, ok := strings.CutPrefix(r.rest, text)
	r.rest = rest
	return ok
}

// tree reads a leaf or a node, and returns its vertices.
func (r *shapeReader) tree() (vertices, bool) {
	switch {
	case r.take("v"):
		return r.leaf()
	case r.take("u("):
		return r.node(false)
	case r.take("j("):
		return r.node(true)
	}
	return 0, false
}

// leaf adds a vertex, if there may be one more.
func (r *shapeReader) leaf() (vertices, bool) {
	if r.graph.n == maxVertices {
		return 0, false
	}
	v := r.graph.n
	r.graph.n++
	return single(v), true
}

// node reads the parts of a node up to its end, and joins them if they are in series.
func (r *shapeReader) node(series bool) (vertices, bool) {
	all, ok := r.tree()
	for ok && !r.take(")") {
		var part vertices
		part, ok = r.tree()
		if series {
			r.graph.join(all, part)
		}
		all |= part
	}
	return all, ok
}

// paint gives the vertices of a cograph's tree colours from first on, and returns a clique that has a vertex of each of these colours.
func (t Tree) paint(colours []int, first int) vertices {
	if t.Kind == Leaf {
		colours[t.Vertex] = first
		return single(t.Vertex)
	}
	clique := vertices(0)
	for _, part := range t.Parts {
		if t.Kind == Series {
			clique |= part.paint(colours, first+clique.size())
			continue
		}
		other := part.paint(colours, first)
		if other.size() > clique.size() {
			clique = other
		}
	}
	return clique
}
