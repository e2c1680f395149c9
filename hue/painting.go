package hue

import (
	"slices"
)

// A painting has the hues of those edges that are painted, and for each vertex the hues of the edges at it.
type painting struct {
	graph
	hue map[edge]int
	at  [maxVertices]set
}

func (g graph) blank() *painting {
	return &painting{graph: g, hue: map[edge]int{}}
}

func (p *painting) paint(e edge, hue int) {
	p.hue[e] = hue
	p.at[e.i] |= single(hue)
	p.at[e.j] |= single(hue)
}

func (p *painting) erase(e edge) {
	hue, ok := p.hue[e]
	if !ok {
		return
	}
	delete(p.hue, e)
	p.at[e.i] &^= single(hue)
	p.at[e.j] &^= single(hue)
}

// repaint gives the edges, of which hues may be moved from one to another, the hues that next says while they still have the old ones.
func (p *painting) repaint(edges []edge, next func(at int) int) {
	hues := make([]int, len(edges))
	for at := range edges {
		hues[at] = next(at)
	}
	for _, e := range edges {
		p.erase(e)
	}
	for at, e := range edges {
		p.paint(e, hues[at])
	}
}

// hues are those of the graph's edges, all of which are painted.
func (p *painting) hues() []int {
	list := make([]int, len(p.edges))
	for at, e := range p.edges {
		list[at] = p.hue[e]
	}
	return list
}

// free is the least hue that is in none of the sets.
func free(used ...set) int {
	all := set(0)
	for _, s := range used {
		all |= s
	}
	return (^all).least()
}

// swap exchanges the hues a and b on the path of edges with them that begins at v with a; b is free there.
func (p *painting) swap(v, a, b int) {
	var path []edge
	for hue := a; p.at[v].has(hue); hue = a + b - hue {
		for e := range p.edgesAt(v) {
			if old, ok := p.hue[e]; ok && old == hue {
				path = append(path, e)
				v = e.other(v)
				break
			}
		}
	}
	p.repaint(path, func(at int) int { return a + b - p.hue[path[at]] })
}

// fan returns edges at u from e, which is not painted, on: each other one has a hue that is free at the end of the one before it. No edge could be added.
func (p *painting) fan(u int, e edge) []edge {
	fan := []edge{e}
grow:
	for {
		end := fan[len(fan)-1].other(u)
		for next := range p.edgesAt(u) {
			hue, ok := p.hue[next]
			if ok && !p.at[end].has(hue) && !slices.Contains(fan, next) {
				fan = append(fan, next)
				continue grow
			}
		}
		return fan
	}
}

// vizing paints all edges with hues that are at most the degree, as Misra and Gries do it: so there is always one free at each vertex.
func (g graph) vizing() []int {
	p := g.blank()
	for _, e := range g.edges {
		u := e.i
		fan := p.fan(u, e)
		end := fan[len(fan)-1].other(u)
		a, b := free(p.at[u]), free(p.at[end])
		p.swap(u, b, a)
		// Now b is free at u, and the fan is still one up to the first end where b is free.
		last := slices.IndexFunc(fan, func(f edge) bool { return !p.at[f.other(u)].has(b) })
		p.repaint(fan[:last+1], func(at int) int {
			if at == last {
				return b
			}
			return p.hue[fan[at+1]]
		})
	}
	return p.hues()
}

// konig paints all edges of a graph of two sides with hues less than the degree. The path that is swapped at one vertex of an edge does not reach the other one, as it comes to that side only by the hue that is free there.
func (g graph) konig() *painting {
	p := g.blank()
	degree := g.degree()
	for _, e := range g.edges {
		hue := free(p.at[e.i], p.at[e.j])
		if hue >= degree {
			hue = free(p.at[e.i])
			p.swap(e.j, hue, free(p.at[e.j]))
		}
		p.paint(e, hue)
	}
	return p
}
