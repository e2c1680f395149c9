package part_test

import (
	"fmt"
	"iter"
	"math/rand"
	"slices"
	"strings"

	"forcola/part"
)

// What follows is slow and plain models of the chapter's definitions, to which the package is compared.

// A picture of a graph says of each two vertices whether they have an edge.
type picture struct {
	n    int
	edge [16][16]bool
}

func draw(n int, edges [][2]int) picture {
	p := picture{n: n}
	for _, x := range edges {
		p.edge[x[0]][x[1]] = true
		p.edge[x[1]][x[0]] = true
	}
	return p
}

func (p picture) edges() [][2]int {
	var l [][2]int
	for i := range p.n {
		for j := i + 1; j < p.n; j++ {
			if p.edge[i][j] {
				l = append(l, [2]int{i, j})
			}
		}
	}
	return l
}

func (p picture) complement() picture {
	q := picture{n: p.n}
	for i := range p.n {
		for j := range p.n {
			q.edge[i][j] = i != j && !p.edge[i][j]
		}
	}
	return q
}

// renumbered is the graph whose vertex order[i] is vertex i here.
func (p picture) renumbered(order []int) picture {
	q := picture{n: p.n}
	for i := range p.n {
		for j := range p.n {
			q.edge[order[i]][order[j]] = p.edge[i][j]
		}
	}
	return q
}

// within is the graph of some of the vertices, numbered from 0 on.
func (p picture) within(members []int) picture {
	q := picture{n: len(members)}
	for i, v := range members {
		for j, w := range members {
			q.edge[i][j] = p.edge[v][w]
		}
	}
	return q
}

func members(set int) []int {
	var l []int
	for v := 0; set>>v > 0; v++ {
		if set>>v&1 == 1 {
			l = append(l, v)
		}
	}
	return l
}

func setOf(members ...int) int {
	set := 0
	for _, v := range members {
		set |= 1 << v
	}
	return set
}

func (p picture) isModule(set int) bool {
	for v := range p.n {
		if set>>v&1 == 1 {
			continue
		}
		for _, a := range members(set) {
			for _, b := range members(set) {
				if p.edge[v][a] != p.edge[v][b] {
					return false
				}
			}
		}
	}
	return set != 0
}

func (p picture) modules() []int {
	var l []int
	for set := range 1 << p.n {
		if p.isModule(set) {
			l = append(l, set)
		}
	}
	return l
}

func (p picture) strong() []int {
	modules := p.modules()
	var l []int
	for _, s := range modules {
		if !slices.ContainsFunc(modules, func(m int) bool { return s&m != 0 && s&m != s && s&m != m }) {
			l = append(l, s)
		}
	}
	return l
}

func (p picture) isConnected() bool {
	reached := map[int]bool{0: true}
	for range p.n {
		for v := range p.n {
			for w := range p.n {
				if reached[v] && p.edge[v][w] {
					reached[w] = true
				}
			}
		}
	}
	return len(reached) == p.n
}

// parts are the greatest strong modules other than all vertices, in the order of their least vertices.
func (p picture) parts() []int {
	var strong, l []int
	for _, s := range p.strong() {
		if s != 1<<p.n-1 {
			strong = append(strong, s)
		}
	}
	for _, s := range strong {
		if !slices.ContainsFunc(strong, func(m int) bool { return m != s && m&s == s }) {
			l = append(l, s)
		}
	}
	slices.SortFunc(l, func(a, b int) int { return members(a)[0] - members(b)[0] })
	return l
}

// tree is the tree as text: vertices, and kinds with parts in parentheses. The vertices have these names.
func (p picture) tree(names []int) string {
	if p.n == 1 {
		return fmt.Sprint(" ", names[0])
	}
	text := "Prime("
	if !p.isConnected() {
		text = "Parallel("
	} else if !p.complement().isConnected() {
		text = "Series("
	}
	for _, m := range p.parts() {
		var own []int
		for _, v := range members(m) {
			own = append(own, names[v])
		}
		text += p.within(members(m)).tree(own)
	}
	return text + ")"
}

// text is what tree says of the same tree; it says what a tree should not be, too.
func text(t part.Tree) string {
	switch {
	case t.Kind == part.Leaf && len(t.Parts) == 0:
		return fmt.Sprint(" ", t.Vertex)
	case t.Kind < 1 || t.Kind > 3 || t.Vertex != 0 || len(t.Parts) < 2:
		return fmt.Sprintf("bad %+v", t)
	}
	s := []string{"", "Parallel(", "Series(", "Prime("}[t.Kind]
	for _, x := range t.Parts {
		s += text(x)
	}
	return s + ")"
}

// isPath reports whether the four vertices are a path of four.
func (p picture) isPath(x [4]int) bool {
	for i := range 4 {
		if x[i] < 0 || x[i] >= p.n {
			return false
		}
		for j := range i {
			if x[i] == x[j] || p.edge[x[i]][x[j]] != (i == j+1) {
				return false
			}
		}
	}
	return true
}

func (p picture) hasPath() bool {
	for a := range p.n {
		for b := range p.n {
			for c := range p.n {
				for d := range p.n {
					if p.isPath([4]int{a, b, c, d}) {
						return true
					}
				}
			}
		}
	}
	return false
}

func (p picture) isClique(set int) bool {
	for _, a := range members(set) {
		for _, b := range members(set) {
			if a != b && !p.edge[a][b] {
				return false
			}
		}
	}
	return set >= 0 && set < 1<<p.n
}

// greatestClique is the number of its vertices.
func (p picture) greatestClique() int {
	most := 0
	for set := range 1 << p.n {
		if p.isClique(set) {
			most = max(most, len(members(set)))
		}
	}
	return most
}

// areColours reports whether those are colours of the graph.
func (p picture) areColours(colours []int) bool {
	if len(colours) != p.n {
		return false
	}
	for i := range p.n {
		for j := range i {
			if p.edge[i][j] && colours[i] == colours[j] {
				return false
			}
		}
	}
	return slices.Min(colours) >= 0
}

// leastColours is the least number of colours, found by trying all lists of fewer and fewer.
func (p picture) leastColours() int {
	for most := 1; ; most++ {
		colours := make([]int, p.n)
		for {
			if p.areColours(colours) {
				return most
			}
			at := 0
			for at < p.n && colours[at] == most-1 {
				colours[at] = 0
				at++
			}
			if at == p.n {
				break
			}
			colours[at]++
		}
	}
}

// orders are all lists of the numbers from 0 to n - 1.
func orders(n int) [][]int {
	if n == 0 {
		return [][]int{nil}
	}
	var l [][]int
	for _, shorter := range orders(n - 1) {
		for at := range n {
			l = append(l, slices.Insert(slices.Clone(shorter), at, n-1))
		}
	}
	return l
}

// name is the least text of the graph's edges, over all ways of numbering the vertices.
func (p picture) name() string {
	var least string
	for _, order := range orders(p.n) {
		var b strings.Builder
		q := p.renumbered(order)
		for i := range q.n {
			for j := range i {
				if q.edge[i][j] {
					b.WriteByte('1')
				} else {
					b.WriteByte('0')
				}
			}
		}
		if least == "" || b.String() < least {
			least = b.String()
		}
	}
	return fmt.Sprint(p.n, " ", least)
}

// allGraphs yields all graphs of n vertices.
func allGraphs(n int) iter.Seq[picture] {
	return func(yield func(picture) bool) {
		complete := picture{n: n}.complement().edges()
		for set := range 1 << len(complete) {
			var edges [][2]int
			for _, i := range members(set) {
				edges = append(edges, complete[i])
			}
			if !yield(draw(n, edges)) {
				return
			}
		}
	}
}

// someGraphs yields random graphs of at most most vertices: half of them plain ones, half of them made of modules within modules.
func someGraphs(seed int64, count, most int) iter.Seq[picture] {
	return func(yield func(picture) bool) {
		r := rand.New(rand.NewSource(seed))
		for i := range count {
			p := plain(r, 1+r.Intn(most))
			if i%2 == 1 {
				p = nested(r, 1+r.Intn(most))
			}
			if !yield(p) {
				return
			}
		}
	}
}

// plain is a random graph with n vertices, and with few, some or many edges.
func plain(r *rand.Rand, n int) picture {
	p := picture{n: n}
	tenths := 1 + r.Intn(9)
	for i := range n {
		for j := range i {
			p.edge[i][j] = r.Intn(10) < tenths
			p.edge[j][i] = p.edge[i][j]
		}
	}
	return p
}

// nested is a random graph with n vertices, numbered at random: again and again one vertex becomes two, or four in a path.
func nested(r *rand.Rand, n int) picture {
	p := picture{n: 1}
	for p.n < n {
		v := r.Intn(p.n)
		if p.n+3 <= n && r.Intn(3) == 0 {
			p = p.put(v, draw(4, [][2]int{{0, 1}, {1, 2}, {2, 3}}))
		} else if r.Intn(2) == 0 {
			p = p.put(v, draw(2, nil))
		} else {
			p = p.put(v, draw(2, [][2]int{{0, 1}}))
		}
	}
	return p.renumbered(r.Perm(n))
}

// put is the graph in which inner stands in the place of vertex v; its vertices, but for the first one, which is v, are the last ones.
func (p picture) put(v int, inner picture) picture {
	q := picture{n: p.n + inner.n - 1}
	outerOf := func(i int) int {
		if i < p.n {
			return i
		}
		return v
	}
	innerOf := func(i int) int {
		if i < p.n {
			return 0
		}
		return i - p.n + 1
	}
	for i := range q.n {
		for j := range q.n {
			if outerOf(i) == v && outerOf(j) == v {
				q.edge[i][j] = inner.edge[innerOf(i)][innerOf(j)]
			} else {
				q.edge[i][j] = p.edge[outerOf(i)][outerOf(j)]
			}
		}
	}
	return q
}
