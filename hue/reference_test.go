package hue_test

import (
	"iter"
	"math/rand"
	"slices"
)

// What follows is slow and plain models of the chapter's definitions, to which the package is compared.

// A picture of a graph says of each two vertices whether they have an edge.
type picture struct {
	n    int
	edge [16][16]bool
}

func draw(n int, edges [][2]int) picture {
	p := picture{n: n}
	for _, x := range edges {
		p.edge[x[0]][x[1]] = true
		p.edge[x[1]][x[0]] = true
	}
	return p
}

func (p picture) edges() [][2]int {
	var l [][2]int
	for i := range p.n {
		for j := i + 1; j < p.n; j++ {
			if p.edge[i][j] {
				l = append(l, [2]int{i, j})
			}
		}
	}
	return l
}

// renumbered is the graph whose vertex order[i] is vertex i here.
func (p picture) renumbered(order []int) picture {
	q := picture{n: p.n}
	for i := range p.n {
		for j := range p.n {
			q.edge[order[i]][order[j]] = p.edge[i][j]
		}
	}
	return q
}

func members(set int) []int {
	var l []int
	for v := 0; set>>v > 0; v++ {
		if set>>v&1 == 1 {
			l = append(l, v)
		}
	}
	return l
}

func setOf(members ...int) int {
	set := 0
	for _, v := range members {
		set |= 1 << v
	}
	return set
}

// edgesTo is the number of edges from v to those vertices.
func (p picture) edgesTo(v int, others []int) int {
	count := 0
	for _, w := range others {
		if p.edge[v][w] {
			count++
		}
	}
	return count
}

func (p picture) vertices() []int { return members(1<<p.n - 1) }

func (p picture) degree() int {
	most := 0
	for v := range p.n {
		most = max(most, p.edgesTo(v, p.vertices()))
	}
	return most
}

func haveCommon(a, b [2]int) bool {
	return a[0] == b[0] || a[0] == b[1] || a[1] == b[0] || a[1] == b[1]
}

// areProper reports whether those are proper hues, none of which is negative.
func (p picture) areProper(hues []int) bool {
	edges := p.edges()
	if len(hues) != len(edges) {
		return false
	}
	for i := range edges {
		if hues[i] < 0 {
			return false
		}
		for j := range i {
			if haveCommon(edges[i], edges[j]) && hues[i] == hues[j] {
				return false
			}
		}
	}
	return true
}

// areColours reports whether those are colours of the vertices.
func (p picture) areColours(colours []int) bool {
	if len(colours) != p.n {
		return false
	}
	for i := range p.n {
		for j := range i {
			if p.edge[i][j] && colours[i] == colours[j] {
				return false
			}
		}
	}
	return slices.Min(colours) >= 0
}

// areFrom reports whether each of the numbers is in its list.
func areFrom(numbers []int, lists [][]int) bool {
	for i, x := range numbers {
		if !slices.Contains(lists[i], x) {
			return false
		}
	}
	return len(numbers) == len(lists)
}

// choices yields all lists of numbers from the lists; a list holds only until the next one.
func choices(lists [][]int) iter.Seq[[]int] {
	return func(yield func([]int) bool) {
		chosen := make([]int, len(lists))
		var choose func(at int) bool
		choose = func(at int) bool {
			if at == len(lists) {
				return yield(chosen)
			}
			for _, x := range lists[at] {
				chosen[at] = x
				if !choose(at + 1) {
					return false
				}
			}
			return true
		}
		choose(0)
	}
}

// exists reports whether some list of numbers from the lists is right.
func exists(lists [][]int, isRight func([]int) bool) bool {
	for l := range choices(lists) {
		if isRight(l) {
			return true
		}
	}
	return false
}

// equal is count lists of the numbers from 0 to most - 1.
func equal(count, most int) [][]int {
	lists := make([][]int, count)
	for i := range lists {
		for x := range most {
			lists[i] = append(lists[i], x)
		}
	}
	return lists
}

// parted is the set of the vertices that edges lead to from v.
func (p picture) parted(v int) []int {
	set := 1 << v
	for range p.n {
		for a := range p.n {
			for b := range p.n {
				if set>>a&1 == 1 && p.edge[a][b] {
					set |= 1 << b
				}
			}
		}
	}
	return members(set)
}

// isSide reports whether each edge joins vertices in the set and outside of it.
func (p picture) isSide(set int) bool {
	for _, x := range p.edges() {
		if set>>x[0]&1 == set>>x[1]&1 {
			return false
		}
	}
	return set >= 0 && set < 1<<p.n
}

// isFirstSide reports whether that is a side with the least vertex of each connected part.
func (p picture) isFirstSide(set int) bool {
	for v := range p.n {
		if slices.Min(p.parted(v)) == v && set>>v&1 == 0 {
			return false
		}
	}
	return p.isSide(set)
}

// hasSides tries all sets.
func (p picture) hasSides() bool {
	for set := range 1 << p.n {
		if p.isSide(set) {
			return true
		}
	}
	return false
}

func (p picture) isOddRing(ring []int) bool {
	if len(ring) < 3 || len(ring)%2 == 0 {
		return false
	}
	for i, v := range ring {
		w := ring[(i+1)%len(ring)]
		if v < 0 || v >= p.n || w < 0 || w >= p.n || !p.edge[v][w] || slices.Index(ring, v) != i {
			return false
		}
	}
	return true
}

// isBare reports whether count hues are too few already because some vertices have more edges among them than count matchings of them can have.
func (p picture) isBare(count int) bool {
	for set := range 1 << p.n {
		l := members(set)
		within := 0
		for _, v := range l {
			within += p.edgesTo(v, l)
		}
		if within/2 > count*(len(l)/2) {
			return true
		}
	}
	return false
}

// order is the order by its definition, and the looseness by its own.
func (p picture) order() ([]int, int) {
	var order []int
	left := p.vertices()
	for len(left) > 0 {
		fewest := p.n
		for _, v := range left {
			fewest = min(fewest, p.edgesTo(v, left))
		}
		for i, v := range slices.Backward(left) {
			if p.edgesTo(v, left) == fewest {
				order = append([]int{v}, order...)
				left = slices.Delete(left, i, i+1)
				break
			}
		}
	}
	loose := 0
	for i, v := range order {
		loose = max(loose, p.edgesTo(v, order[:i]))
	}
	return order, loose
}

// core joins all sets that are as the core should be.
func (p picture) core(k int) int {
	all := 0
	for set := range 1 << p.n {
		l := members(set)
		if !slices.ContainsFunc(l, func(v int) bool { return p.edgesTo(v, l) < k }) {
			all |= set
		}
	}
	return all
}

func complete(n int) [][2]int {
	var l [][2]int
	for i := range n {
		for j := i + 1; j < n; j++ {
			l = append(l, [2]int{i, j})
		}
	}
	return l
}

// path is the edges of the path 0-1-2 and so on.
func path(n int) [][2]int {
	var l [][2]int
	for i := range n - 1 {
		l = append(l, [2]int{i, i + 1})
	}
	return l
}

func ring(n int) [][2]int {
	p := draw(n, path(n))
	p.edge[0][n-1], p.edge[n-1][0] = true, true
	return p.edges()
}

// star is the edges from 0 to all others.
func star(n int) [][2]int {
	var l [][2]int
	for i := 1; i < n; i++ {
		l = append(l, [2]int{0, i})
	}
	return l
}

// crossed is the edges between the first a vertices and the b others.
func crossed(a, b int) [][2]int {
	var l [][2]int
	for i := range a {
		for j := range b {
			l = append(l, [2]int{i, a + j})
		}
	}
	return l
}

// petersen is the Petersen graph.
func petersen() picture {
	p := picture{n: 10}
	for i := range 5 {
		for _, x := range [][2]int{{i, (i + 1) % 5}, {i, i + 5}, {i + 5, (i+2)%5 + 5}} {
			p.edge[x[0]][x[1]], p.edge[x[1]][x[0]] = true, true
		}
	}
	return p
}

// allGraphs yields all graphs of n vertices.
func allGraphs(n int) iter.Seq[picture] {
	return func(yield func(picture) bool) {
		all := complete(n)
		for set := range 1 << len(all) {
			var edges [][2]int
			for _, i := range members(set) {
				edges = append(edges, all[i])
			}
			if !yield(draw(n, edges)) {
				return
			}
		}
	}
}

// random is a random graph with n vertices, and with few, some or many edges; of two sides if so asked.
func random(r *rand.Rand, n int, sides bool) picture {
	p := picture{n: n}
	tenths := r.Intn(11)
	side := r.Intn(1 << n)
	for i := range n {
		for j := range i {
			if sides && side>>i&1 == side>>j&1 {
				continue
			}
			p.edge[i][j] = r.Intn(10) < tenths
			p.edge[j][i] = p.edge[i][j]
		}
	}
	return p
}

// someGraphs yields random graphs of at most most vertices; each third one has two sides.
func someGraphs(seed int64, count, most int) iter.Seq[picture] {
	return func(yield func(picture) bool) {
		r := rand.New(rand.NewSource(seed))
		for i := range count {
			if !yield(random(r, 1+r.Intn(most), i%3 == 0)) {
				return
			}
		}
	}
}

// twoSided yields random graphs of two sides of at most most vertices.
func twoSided(seed int64, count, most int) iter.Seq[picture] {
	return func(yield func(picture) bool) {
		r := rand.New(rand.NewSource(seed))
		for range count {
			if !yield(random(r, 1+r.Intn(most), true)) {
				return
			}
		}
	}
}

// someLists are count random lists, each of from least to most of the numbers less than range.
func someLists(r *rand.Rand, count, least, most, limit int) [][]int {
	lists := make([][]int, count)
	for i := range lists {
		size := min(limit, least+r.Intn(most-least+1))
		lists[i] = slices.Sorted(slices.Values(r.Perm(limit)[:size]))
	}
	return lists
}
