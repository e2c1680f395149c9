package hue_test

import (
	"math"
	"math/rand"
	"slices"
	"testing"

	"forcola/api"
	"forcola/hue"
)

// P7.4: the order and the looseness.
func TestOrder(t *testing.T) {
	for _, x := range []struct {
		n     int
		edges [][2]int
		want  []int
		loose int
	}{
		{1, nil, []int{0}, 0}, {3, nil, []int{0, 1, 2}, 0}, {2, path(2), []int{0, 1}, 1}, {3, path(3), []int{0, 1, 2}, 1}, {4, path(4), []int{0, 1, 2, 3}, 1}, {4, star(4), []int{0, 1, 2, 3}, 1}, {3, complete(3), []int{0, 1, 2}, 2}, {4, ring(4), []int{0, 1, 2, 3}, 2},
		{4, [][2]int{{0, 3}, {1, 3}, {2, 3}}, []int{0, 3, 1, 2}, 1}, {4, [][2]int{{1, 2}, {1, 3}, {2, 3}}, []int{1, 2, 3, 0}, 2}, {3, [][2]int{{0, 2}, {1, 2}}, []int{0, 2, 1}, 1}, {5, [][2]int{{0, 4}, {2, 3}}, []int{2, 3, 0, 4, 1}, 1},
		{16, complete(16), draw(16, nil).vertices(), 15},
	} {
		if l, loose, e := hue.Order(x.n, x.edges); !slices.Equal(l, x.want) || loose != x.loose || e != api.OK {
			t.Errorf("Order of %d, %v: %v, %d, %d", x.n, x.edges, l, loose, e)
		}
	}
	check := func(p picture) {
		order, looseness := p.order()
		if l, loose, e := hue.Order(p.n, p.edges()); !slices.Equal(l, order) || loose != looseness || e != api.OK {
			t.Errorf("Order of %d, %v: %v, %d, %d", p.n, p.edges(), l, loose, e)
		}
	}
	for n := 1; n <= 5; n++ {
		for p := range allGraphs(n) {
			check(p)
		}
	}
	for p := range someGraphs(21, 3000, 16) {
		check(p)
	}
}

// P7.4: the core.
func TestCore(t *testing.T) {
	for _, x := range []struct {
		n     int
		edges [][2]int
		k     int
		want  int
	}{
		{3, path(3), 0, 7}, {3, path(3), 1, 7}, {3, path(3), 2, 0}, {1, nil, 0, 1}, {1, nil, 1, 0}, {16, nil, 0, 1<<16 - 1}, {16, nil, 1, 0}, {16, complete(16), 15, 1<<16 - 1}, {16, complete(16), 16, 0}, {16, ring(16), 2, 1<<16 - 1}, {16, ring(16), 3, 0}, {16, path(16), 2, 0}, {16, path(16), 1, 1<<16 - 1}, {16, ring(5), 2, 31}, {16, ring(5), 1, 31},
		{4, [][2]int{{0, 1}, {0, 2}, {1, 2}, {2, 3}}, 2, 7}, {5, [][2]int{{0, 1}, {2, 3}, {2, 4}, {3, 4}}, 2, 28}, {5, [][2]int{{0, 1}, {2, 3}, {2, 4}, {3, 4}}, 1, 31}, {10, petersen().edges(), 3, 1023}, {10, petersen().edges(), 4, 0},
		// A long way to fall apart.
		{16, append(ring(3), path(16)[2:]...), 2, 7},
	} {
		if set, e := hue.Core(x.n, x.edges, x.k); set != x.want || e != api.OK {
			t.Errorf("Core of %d, %v, %d: %d, %d", x.n, x.edges, x.k, set, e)
		}
	}
	check := func(p picture) {
		for k := range 17 {
			if set, e := hue.Core(p.n, p.edges(), k); set != p.core(k) || e != api.OK {
				t.Errorf("Core of %d, %v, %d: %d, %d", p.n, p.edges(), k, set, e)
			}
		}
	}
	for n := 1; n <= 4; n++ {
		for p := range allGraphs(n) {
			check(p)
		}
	}
	for p := range someGraphs(22, 100, 9) {
		check(p)
	}
	for p := range someGraphs(23, 1, 16) {
		check(p)
	}
	for _, k := range []int{-1, 17, math.MaxInt, math.MinInt, 1 << 32} {
		for _, edges := range [][][2]int{nil, complete(16)} {
			if set, e := hue.Core(16, edges, k); set != 0 || e != api.ErrArg {
				t.Errorf("Core of %v, %d: %d, %d", edges, k, set, e)
			}
		}
	}
}

// P7.6: colours, looseness and cores of the same graph.
func TestLooseness(t *testing.T) {
	r := rand.New(rand.NewSource(24))
	check := func(p picture) {
		_, loose, _ := hue.Order(p.n, p.edges())
		for k := range 17 {
			if set, e := hue.Core(p.n, p.edges(), k); (set != 0) != (k <= loose) || e != api.OK {
				t.Errorf("Core of %d, %v, %d: %d, %d; the looseness %d", p.n, p.edges(), k, set, e, loose)
			}
		}
		if p.n > 10 {
			return
		}
		if k, _, e := hue.Chromatic(p.n, p.edges()); k > loose+1 || e != api.OK {
			t.Errorf("Chromatic of %d, %v: %d, %d; the looseness %d", p.n, p.edges(), k, e, loose)
		}
		for _, limit := range []int{loose + 1, loose + 2, loose + 4, 64} {
			lists := someLists(r, p.n, loose+1, loose+1, limit)
			if l, ok, e := hue.Colours(p.n, p.edges(), lists); !ok || e != api.OK || !p.areColours(l) || !areFrom(l, lists) {
				t.Errorf("Colours of %d, %v with %v: %v, %t, %d; the looseness %d", p.n, p.edges(), lists, l, ok, e, loose)
			}
		}
	}
	for n := 1; n <= 5; n++ {
		for p := range allGraphs(n) {
			check(p)
		}
	}
	for p := range someGraphs(25, 600, 16) {
		check(p)
	}
	check(petersen())
}

// R4, R7: results are new memory, arguments stay as they are, what is beyond their length is not used, and the same call gives the same.
func TestMemory(t *testing.T) {
	edges := append(make([][2]int, 0, 20), crossed(2, 3)...)
	beyond := edges[:cap(edges)]
	for i := len(edges); i < len(beyond); i++ {
		beyond[i] = [2]int{-1, 99}
	}
	before := slices.Clone(beyond)
	lists := equal(6, 4)
	for i := range lists {
		lists[i] = append(lists[i], -7)[:4]
	}
	five := lists[:5:6]
	results := func() [][]int {
		ring, _, _ := hue.OddRing(5, ring(5))
		vizing, _ := hue.Vizing(5, edges)
		konig, _ := hue.Konig(5, edges)
		fewest, _ := hue.Fewest(5, edges)
		galvin, _ := hue.Galvin(5, edges, lists)
		from, _, _ := hue.FromLists(5, edges, lists)
		order, _, _ := hue.Order(5, edges)
		colours, _, _ := hue.Colours(5, edges, five)
		_, chromatic, _ := hue.Chromatic(5, edges)
		return [][]int{ring, vizing, konig, fewest, galvin, from, order, colours, chromatic}
	}
	first := results()
	var kept [][]int
	for i, l := range first {
		if len(l) == 0 {
			t.Errorf("Result %d is empty", i)
		}
		kept = append(kept, slices.Clone(l))
	}
	for i := range first {
		for j := range first[i] {
			first[i][j] = -5
		}
		first[i] = append(first[i], -6)
	}
	if !slices.EqualFunc(results(), kept, slices.Equal) {
		t.Errorf("Results: %v, then %v", kept, results())
	}
	if !slices.Equal(edges[:cap(edges)], before) {
		t.Errorf("Edges: %v, then %v", before, edges[:cap(edges)])
	}
	for i, list := range lists {
		if !slices.Equal(list[:5], []int{0, 1, 2, 3, -7}) {
			t.Errorf("List %d: %v", i, list[:5])
		}
	}
}
