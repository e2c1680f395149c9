package hue

import (
	"cmp"
	"slices"
)

// galvin gives each edge of a graph of two sides a number from its list, none of which has fewer numbers than the degree. One after the other the numbers go to the kernel of the edges that still wait for one and have it in their lists.
// Each time that an edge is passed over, one of those edges leaves that come before it by Konig's hues. There are fewer of these than the degree, so that each edge gets a number in the end.
func (g graph) galvin(side set, lists [][]int) []int {
	order := g.konig().hue
	list := map[edge][]int{}
	for at, e := range g.edges {
		list[e] = lists[at]
	}
	p := g.blank()
	for number := range maxNumbers {
		var open []edge
		for _, e := range g.edges {
			_, painted := p.hue[e]
			if !painted && slices.Contains(list[e], number) {
				open = append(open, e)
			}
		}
		for _, e := range kernel(open, side, order) {
			p.paint(e, number)
		}
	}
	return p.hues()
}

// kernel returns some of the open edges that do not meet. Each other one meets one of them at a vertex of that side where the hue of its own is greater, or at another vertex where it is less.
func kernel(open []edge, side set, hue map[edge]int) []edge {
	open = slices.SortedFunc(slices.Values(open), func(e, f edge) int { return cmp.Compare(hue[e], hue[f]) })
again:
	for {
		chosen := firsts(open, side)
		for _, e := range chosen {
			for _, f := range chosen {
				if e.meets(f) && hue[e] < hue[f] {
					at := slices.Index(open, e)
					open = slices.Delete(open, at, at+1)
					continue again
				}
			}
		}
		return chosen
	}
}

// firsts are the first edges at each vertex of that side.
func firsts(open []edge, side set) []edge {
	var found []edge
	met := set(0)
	for _, e := range open {
		end := (single(e.i) | single(e.j)) & side
		if met&end == 0 {
			met |= end
			found = append(found, e)
		}
	}
	return found
}
