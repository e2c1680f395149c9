package part_test

import (
	"slices"
	"testing"

	"forcola/api"
	"forcola/part"
)

// P4.2: the chapter's examples, and ordinary graphs.
func TestSomeTrees(t *testing.T) {
	for _, x := range []struct {
		n               int
		edges           [][2]int
		modules, strong []int
		tree            string
		quotient, twins [][2]int
	}{
		{1, nil, []int{1}, []int{1}, " 0", nil, nil},
		{2, nil, []int{1, 2, 3}, []int{1, 2, 3}, "Parallel( 0 1)", nil, [][2]int{{0, 1}}},
		{2, path(2), []int{1, 2, 3}, []int{1, 2, 3}, "Series( 0 1)", [][2]int{{0, 1}}, [][2]int{{0, 1}}},
		{3, [][2]int{{0, 1}, {0, 2}}, []int{1, 2, 4, 6, 7}, []int{1, 2, 4, 6, 7}, "Series( 0Parallel( 1 2))", [][2]int{{0, 1}}, [][2]int{{1, 2}}},
		{3, complete(3), []int{1, 2, 3, 4, 5, 6, 7}, []int{1, 2, 4, 7}, "Series( 0 1 2)", complete(3), complete(3)},
		{4, path(4), []int{1, 2, 4, 8, 15}, []int{1, 2, 4, 8, 15}, "Prime( 0 1 2 3)", path(4), nil},
		{4, [][2]int{{0, 1}, {2, 3}}, []int{1, 2, 3, 4, 8, 12, 15}, []int{1, 2, 3, 4, 8, 12, 15}, "Parallel(Series( 0 1)Series( 2 3))", nil, [][2]int{{0, 1}, {2, 3}}},
		{4, [][2]int{{0, 3}, {1, 2}}, []int{1, 2, 4, 6, 8, 9, 15}, []int{1, 2, 4, 6, 8, 9, 15}, "Parallel(Series( 0 3)Series( 1 2))", nil, [][2]int{{0, 3}, {1, 2}}},
		// A path of four whose first vertex is two.
		{5, [][2]int{{0, 1}, {1, 2}, {1, 4}, {2, 3}}, []int{1, 2, 4, 8, 16, 17, 31}, []int{1, 2, 4, 8, 16, 17, 31}, "Prime(Parallel( 0 4) 1 2 3)", path(4), [][2]int{{0, 4}}},
		// A path of four, and a vertex that sees none of it.
		{5, path(4), []int{1, 2, 4, 8, 15, 16, 31}, []int{1, 2, 4, 8, 15, 16, 31}, "Parallel(Prime( 0 1 2 3) 4)", nil, nil},
	} {
		if l, e := part.Modules(x.n, x.edges); !slices.Equal(l, x.modules) || e != api.OK {
			t.Errorf("Modules of %d, %v: %v, %d", x.n, x.edges, l, e)
		}
		if l, e := part.Strong(x.n, x.edges); !slices.Equal(l, x.strong) || e != api.OK {
			t.Errorf("Strong of %d, %v: %v, %d", x.n, x.edges, l, e)
		}
		if y, e := part.Split(x.n, x.edges); text(y) != x.tree || e != api.OK {
			t.Errorf("Split of %d, %v: %s, %d", x.n, x.edges, text(y), e)
		}
		if l, e := part.Twins(x.n, x.edges); !slices.Equal(l, x.twins) || e != api.OK {
			t.Errorf("Twins of %d, %v: %v, %d", x.n, x.edges, l, e)
		}
		l, e := part.Quotient(x.n, x.edges)
		if !slices.Equal(l, x.quotient) || (e == api.ErrArg) != (x.n == 1) || e != api.OK && e != api.ErrArg {
			t.Errorf("Quotient of %d, %v: %v, %d", x.n, x.edges, l, e)
		}
	}
}

// P4.2: Modules takes at most ten vertices, the other functions all graphs.
func TestManyVertices(t *testing.T) {
	if l, e := part.Modules(10, nil); len(l) != 1023 || l[0] != 1 || l[1022] != 1023 || e != api.OK {
		t.Errorf("Modules: %v, %d", l, e)
	}
	if l, e := part.Modules(10, path(10)); len(l) != 11 || e != api.OK {
		t.Errorf("Modules: %v, %d", l, e)
	}
	for n := 11; n <= 16; n++ {
		if l, e := part.Modules(n, path(n)); len(l) != 0 || e != api.ErrLong {
			t.Errorf("Modules of %d: %v, %d", n, l, e)
		}
	}
	var single []int
	leaves := ""
	for v := range 16 {
		single = append(single, 1<<v)
		leaves += " " + []string{"0", "1", "2", "3", "4", "5", "6", "7", "8", "9", "10", "11", "12", "13", "14", "15"}[v]
	}
	single = append(single, 1<<16-1)
	for kind, edges := range map[string][][2]int{"Parallel": nil, "Series": complete(16), "Prime": path(16)} {
		if l, e := part.Strong(16, edges); !slices.Equal(l, single) || e != api.OK {
			t.Errorf("Strong of %s: %v, %d", kind, l, e)
		}
		if x, e := part.Split(16, edges); text(x) != kind+"("+leaves+")" || e != api.OK {
			t.Errorf("Split of %s: %s, %d", kind, text(x), e)
		}
		if l, e := part.Quotient(16, edges); !slices.Equal(l, edges) || e != api.OK {
			t.Errorf("Quotient of %s: %v, %d", kind, l, e)
		}
		if l, e := part.Twins(16, edges); (len(l) == 120) != (kind != "Prime") || e != api.OK {
			t.Errorf("Twins of %s: %v, %d", kind, l, e)
		}
	}
}

// P4.2: sixteen vertices, four parts of four; the vertices of a part are those with the same remainder.
func TestPartsOfFour(t *testing.T) {
	for _, x := range []struct {
		outer, inner [][2]int
		tree         string
	}{
		{path(4), path(4), "Prime(Prime( 0 4 8 12)Prime( 1 5 9 13)Prime( 2 6 10 14)Prime( 3 7 11 15))"},
		{path(4), nil, "Prime(Parallel( 0 4 8 12)Parallel( 1 5 9 13)Parallel( 2 6 10 14)Parallel( 3 7 11 15))"},
		{complete(4), nil, "Series(Parallel( 0 4 8 12)Parallel( 1 5 9 13)Parallel( 2 6 10 14)Parallel( 3 7 11 15))"},
		{nil, complete(4), "Parallel(Series( 0 4 8 12)Series( 1 5 9 13)Series( 2 6 10 14)Series( 3 7 11 15))"},
		{nil, path(4), "Parallel(Prime( 0 4 8 12)Prime( 1 5 9 13)Prime( 2 6 10 14)Prime( 3 7 11 15))"},
	} {
		outer, inner := draw(4, x.outer), draw(4, x.inner)
		p := picture{n: 16}
		for i := range 16 {
			for j := range 16 {
				p.edge[i][j] = outer.edge[i%4][j%4] || i%4 == j%4 && inner.edge[i/4][j/4]
			}
		}
		strong := []int{setOf(0, 4, 8, 12), setOf(1, 5, 9, 13), setOf(2, 6, 10, 14), setOf(3, 7, 11, 15), 1<<16 - 1}
		for v := range 16 {
			strong = append(strong, setOf(v))
		}
		slices.Sort(strong)
		if l, e := part.Strong(16, p.edges()); !slices.Equal(l, strong) || e != api.OK {
			t.Errorf("Strong of %s: %v, %d", x.tree, l, e)
		}
		if y, e := part.Split(16, p.edges()); text(y) != x.tree || e != api.OK {
			t.Errorf("Split of %s: %s, %d", x.tree, text(y), e)
		}
		if l, e := part.Quotient(16, p.edges()); !slices.Equal(l, x.outer) || e != api.OK {
			t.Errorf("Quotient of %s: %v, %d", x.tree, l, e)
		}
	}
}

// checkTree compares all that P4.2 promises of a graph to the definitions.
func checkTree(t *testing.T, p picture) {
	edges := p.edges()
	modules := p.modules()
	if l, e := part.Modules(p.n, edges); p.n <= 10 && (!slices.Equal(l, modules) || e != api.OK) {
		t.Errorf("Modules of %d, %v: %v, not %v, %d", p.n, edges, l, modules, e)
	}
	if l, e := part.Strong(p.n, edges); !slices.Equal(l, p.strong()) || e != api.OK {
		t.Errorf("Strong of %d, %v: %v, not %v, %d", p.n, edges, l, p.strong(), e)
	}
	names := members(1<<p.n - 1)
	if x, e := part.Split(p.n, edges); text(x) != p.tree(names) || e != api.OK {
		t.Errorf("Split of %d, %v: %s, not %s, %d", p.n, edges, text(x), p.tree(names), e)
	}
	var twins [][2]int
	for _, m := range modules {
		if l := members(m); len(l) == 2 {
			twins = append(twins, [2]int{l[0], l[1]})
		}
	}
	slices.SortFunc(twins, func(a, b [2]int) int { return slices.Compare(a[:], b[:]) })
	if l, e := part.Twins(p.n, edges); !slices.Equal(l, twins) || e != api.OK {
		t.Errorf("Twins of %d, %v: %v, not %v, %d", p.n, edges, l, twins, e)
	}
	if p.n == 1 {
		return
	}
	parts := p.parts()
	q := picture{n: len(parts)}
	for i, a := range parts {
		for j, b := range parts {
			q.edge[i][j] = i != j && p.edge[members(a)[0]][members(b)[0]]
		}
	}
	if l, e := part.Quotient(p.n, edges); !slices.Equal(l, q.edges()) || e != api.OK {
		t.Errorf("Quotient of %d, %v: %v, not %v, %d", p.n, edges, l, q.edges(), e)
	}
}

// P4.2: modules, trees, quotients and twins of all small graphs.
func TestSmallTrees(t *testing.T) {
	for n := 1; n <= 5; n++ {
		for p := range allGraphs(n) {
			checkTree(t, p)
		}
	}
}

// P4.2: and of greater ones.
func TestGreatTrees(t *testing.T) {
	for p := range someGraphs(4, 150, 9) {
		checkTree(t, p)
	}
	// All modules of the greatest graphs are compared where they are not too many.
	for p := range someGraphs(5, 40, 14) {
		if p.n > 9 && len(p.modules()) < 500 {
			checkTree(t, p)
		}
	}
}

// leaves are the sets of leaves of the tree and of its parts at all levels.
func leaves(x part.Tree) []int {
	if x.Kind == part.Leaf {
		return []int{1 << x.Vertex}
	}
	all := 0
	var sets []int
	for _, y := range x.Parts {
		l := leaves(y)
		sets = append(sets, l...)
		all |= slices.Max(l)
	}
	return append(sets, all)
}

// exchanged is the tree with the kinds Parallel and Series exchanged.
func exchanged(x part.Tree) part.Tree {
	y := part.Tree{Kind: []int{part.Leaf, part.Series, part.Parallel, part.Prime}[x.Kind], Vertex: x.Vertex}
	for _, z := range x.Parts {
		y.Parts = append(y.Parts, exchanged(z))
	}
	return y
}

// P4.5: strong modules are the tree's parts, prime quotients have no modules, complements exchange kinds.
func TestGallai(t *testing.T) {
	check := func(p picture) {
		edges := p.edges()
		x, e := part.Split(p.n, edges)
		strong, f := part.Strong(p.n, edges)
		if e != api.OK || f != api.OK {
			t.Fatalf("Split and Strong of %d, %v: %d, %d", p.n, edges, e, f)
		}
		sets := leaves(x)
		slices.Sort(sets)
		if !slices.Equal(sets, strong) {
			t.Errorf("Strong of %d, %v: %v, but the tree %s", p.n, edges, strong, text(x))
		}
		other, e := part.Split(p.n, p.complement().edges())
		if e != api.OK || text(other) != text(exchanged(x)) {
			t.Errorf("Split of %d, %v: %s, of the complement %s, %d", p.n, edges, text(x), text(other), e)
		}
		if x.Kind != part.Prime {
			return
		}
		if !p.isConnected() || !p.complement().isConnected() {
			t.Errorf("Split of %d, %v: %s", p.n, edges, text(x))
		}
		l, e := part.Quotient(p.n, edges)
		for set := range 1 << len(x.Parts) {
			is, f := part.IsModule(len(x.Parts), l, set)
			size := len(members(set))
			if is != (size == 1 || size == len(x.Parts)) || e != api.OK || f != api.OK {
				t.Errorf("Quotient of %d, %v: %v: module %d: %t, %d, %d", p.n, edges, l, set, is, e, f)
			}
		}
	}
	for n := 1; n <= 5; n++ {
		for p := range allGraphs(n) {
			check(p)
		}
	}
	for p := range someGraphs(6, 300, 16) {
		check(p)
	}
}
