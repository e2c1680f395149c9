package part

// kind is that of the tree of s, which has at least two vertices, and the edges between them.
func (g graph) kind(s vertices) int {
	switch {
	case !g.isConnected(s):
		return Parallel
	case !g.complement().isConnected(s):
		return Series
	}
	return Prime
}

// split is the tree of the graph. The strong modules of a strong module's own graph are those of the whole graph that are within it, so they are found once.
func (g graph) split() Tree {
	strong := g.strong()
	var build func(s vertices) Tree
	build = func(s vertices) Tree {
		if s.size() == 1 {
			return Tree{Kind: Leaf, Vertex: s.least()}
		}
		t := Tree{Kind: g.kind(s)}
		for _, part := range partsOf(s, strong) {
			t.Parts = append(t.Parts, build(part))
		}
		return t
	}
	return build(g.all())
}

// partsOf are the greatest of the strong modules, which are rising, within s and other than s, in the order of their least vertices.
func partsOf(s vertices, strong []vertices) []vertices {
	var parts []vertices
	for rest := s; rest != 0; {
		// Strong modules that have a vertex in common contain one another, so the last one is the greatest.
		part := single(rest.least())
		for _, m := range strong {
			if m.has(rest.least()) && m.isWithin(s) && m != s {
				part = m
			}
		}
		parts = append(parts, part)
		rest &^= part
	}
	return parts
}

// quotient is the graph of the parts of the tree's root, of which there are at least two.
func (g graph) quotient() graph {
	parts := partsOf(g.all(), g.strong())
	q := graph{n: len(parts)}
	for i, j := range q.pairs() {
		if g.near[parts[i].least()].has(parts[j].least()) {
			q.join(single(i), single(j))
		}
	}
	return q
}
