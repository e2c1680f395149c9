package hue_test

import (
	"math/rand"
	"slices"
	"testing"

	"forcola/api"
	"forcola/hue"
)

// checkVizing compares Vizing to its definition.
func checkVizing(t *testing.T, p picture) {
	l, e := hue.Vizing(p.n, p.edges())
	if e != api.OK || !p.areProper(l) || len(l) > 0 && slices.Max(l) > p.degree() {
		t.Errorf("Vizing of %d, %v: %v, %d", p.n, p.edges(), l, e)
	}
}

// P7.2, W5: one more hue than the degree is enough.
func TestVizing(t *testing.T) {
	for n := 1; n <= 6; n++ {
		for p := range allGraphs(n) {
			checkVizing(t, p)
		}
	}
	for p := range someGraphs(3, 6000, 16) {
		checkVizing(t, p)
	}
	r := rand.New(rand.NewSource(4))
	for n := 1; n <= 16; n++ {
		for range 20 {
			for _, edges := range [][][2]int{complete(n), path(n), star(n), crossed(n/2, n-n/2)} {
				checkVizing(t, draw(n, edges).renumbered(r.Perm(n)))
			}
		}
	}
	for range 100 {
		checkVizing(t, petersen().renumbered(r.Perm(10)))
	}
}

// checkKonig compares Konig to its definition.
func checkKonig(t *testing.T, p picture) {
	_, sides, _ := hue.Sides(p.n, p.edges())
	l, e := hue.Konig(p.n, p.edges())
	if !sides {
		if len(l) != 0 || e != api.ErrNone {
			t.Errorf("Konig of %d, %v: %v, %d", p.n, p.edges(), l, e)
		}
		return
	}
	if e != api.OK || !p.areProper(l) || len(l) > 0 && slices.Max(l) >= p.degree() {
		t.Errorf("Konig of %d, %v: %v, %d", p.n, p.edges(), l, e)
	}
}

// P7.2, P7.5: as many hues as the degree are enough for two sides.
func TestKonig(t *testing.T) {
	for n := 1; n <= 6; n++ {
		for p := range allGraphs(n) {
			checkKonig(t, p)
		}
	}
	for p := range someGraphs(5, 300, 16) {
		checkKonig(t, p)
	}
	for p := range twoSided(6, 6000, 16) {
		checkKonig(t, p)
	}
	r := rand.New(rand.NewSource(7))
	for n := 1; n <= 16; n++ {
		for a := range n + 1 {
			checkKonig(t, draw(n, crossed(a, n-a)))
			for range 5 {
				checkKonig(t, draw(n, crossed(a, n-a)).renumbered(r.Perm(n)))
			}
		}
	}
	if l, e := hue.Konig(4, ring(4)); e != api.OK || len(slices.Compact(slices.Sorted(slices.Values(l)))) != 2 {
		t.Errorf("Konig of the ring of four: %v, %d", l, e)
	}
	for _, p := range []picture{draw(3, complete(3)), draw(16, complete(3)), draw(15, ring(15)), draw(16, ring(15)), draw(16, [][2]int{{0, 1}, {13, 14}, {13, 15}, {14, 15}}), petersen()} {
		if l, e := hue.Konig(p.n, p.edges()); len(l) != 0 || e != api.ErrNone {
			t.Errorf("Konig of %d, %v: %v, %d", p.n, p.edges(), l, e)
		}
	}
}

// count is how many hues Fewest needs, which must be proper.
func count(t *testing.T, p picture) int {
	l, e := hue.Fewest(p.n, p.edges())
	if e != api.OK || !p.areProper(l) {
		t.Errorf("Fewest of %d, %v: %v, %d", p.n, p.edges(), l, e)
	}
	if len(l) == 0 {
		return 0
	}
	return slices.Max(l) + 1
}

// checkFewest compares the count of hues to what must be: fewer than the degree are too few, and where it is one more, the degree is too few because the graph is bare, or because a search shows it.
func checkFewest(t *testing.T, p picture) {
	d, hues := p.degree(), count(t, p)
	switch {
	case hues == d:
	case hues != d+1:
		t.Errorf("Fewest of %d, %v: %d hues, the degree %d", p.n, p.edges(), hues, d)
	case !p.isBare(d) && p.canHave(d):
		t.Errorf("Fewest of %d, %v: %d hues, but %d are enough", p.n, p.edges(), hues, d)
	}
}

// canHave reports whether that many hues are enough, by trying the edges one after the other; of hues that no edge has yet it tries only the first.
func (p picture) canHave(most int) bool {
	edges := p.edges()
	hues := make([]int, len(edges))
	var try func(at, used int) bool
	try = func(at, used int) bool {
		if at == len(edges) {
			return true
		}
		for h := range min(most, used+1) {
			fits := true
			for i := range at {
				fits = fits && (hues[i] != h || !haveCommon(edges[i], edges[at]))
			}
			hues[at] = h
			if fits && try(at+1, max(used, h+1)) {
				return true
			}
		}
		return false
	}
	return try(0, 0)
}

// P7.2: the fewest hues of small graphs, compared to a plain search.
func TestFewest(t *testing.T) {
	for n := 1; n <= 5; n++ {
		for p := range allGraphs(n) {
			d, hues := p.degree(), count(t, p)
			if hues != d && (hues != d+1 || p.canHave(d)) {
				t.Errorf("Fewest of %d, %v: %d hues, the degree %d", n, p.edges(), hues, d)
			}
		}
	}
}

// P7.2, P7.5, W6: the fewest hues of graphs of six to eight vertices.
func TestFewestOfGreaterGraphs(t *testing.T) {
	for p := range allGraphs(6) {
		checkFewest(t, p)
	}
	for p := range someGraphs(8, 6000, 8) {
		checkFewest(t, p)
	}
	// Where few edges are missing, the degree is just enough, or just too little.
	r := rand.New(rand.NewSource(9))
	for range 1000 {
		n := 6 + r.Intn(3)
		edges := complete(n)
		for range r.Intn(8) {
			i := r.Intn(len(edges))
			edges = slices.Delete(edges, i, i+1)
		}
		checkFewest(t, draw(n, edges).renumbered(r.Perm(n)))
	}
}

// P7.2, P7.5: how many hues some graphs need.
func TestCountsOfHues(t *testing.T) {
	for _, x := range []struct {
		n     int
		edges [][2]int
		want  int
	}{
		{1, nil, 0}, {8, nil, 0}, {2, path(2), 1}, {3, complete(3), 3}, {4, complete(4), 3}, {5, complete(5), 5}, {6, complete(6), 5}, {7, complete(7), 7}, {8, complete(8), 7}, {8, complete(7), 7}, {8, complete(5), 5}, {8, complete(3), 3},
		{3, path(3), 2}, {8, path(8), 2}, {4, ring(4), 2}, {5, ring(5), 3}, {6, ring(6), 2}, {7, ring(7), 3}, {8, ring(8), 2}, {8, ring(7), 3}, {8, star(8), 7}, {8, crossed(4, 4), 4}, {8, crossed(3, 5), 5}, {5, crossed(2, 3), 3},
		{7, complete(7)[1:], 7}, {7, complete(7)[2:], 7}, {7, complete(7)[3:], 6}, {5, complete(5)[1:], 5}, {5, complete(5)[2:], 4}, {8, complete(8)[1:], 7},
		{6, [][2]int{{0, 1}, {0, 2}, {1, 2}, {3, 4}, {3, 5}, {4, 5}}, 3}, {6, [][2]int{{0, 1}, {0, 2}, {0, 3}, {1, 2}, {1, 4}, {2, 5}, {3, 4}, {3, 5}, {4, 5}}, 3}, // two triangles, and a prism
		{5, [][2]int{{0, 1}, {0, 2}, {0, 3}, {1, 2}, {1, 4}, {2, 4}, {3, 4}}, 4}, {8, [][2]int{{0, 1}, {0, 2}, {1, 2}, {6, 7}}, 3},
	} {
		if hues := count(t, draw(x.n, x.edges)); hues != x.want {
			t.Errorf("Fewest of %d, %v: %d hues, not %d", x.n, x.edges, hues, x.want)
		}
	}
}

// P7.2: nine vertices are too many.
func TestFewestIsLong(t *testing.T) {
	for n := 9; n <= 16; n++ {
		for _, edges := range [][][2]int{nil, path(2), path(n), complete(n)} {
			if l, e := hue.Fewest(n, edges); len(l) != 0 || e != api.ErrLong {
				t.Errorf("Fewest of %d, %v: %v, %d", n, edges, l, e)
			}
		}
	}
}

// P7.5: with two sides the degree is enough, and without edges no hue is needed.
func TestFewestAndSides(t *testing.T) {
	check := func(p picture) {
		d, hues := p.degree(), count(t, p)
		_, sides, _ := hue.Sides(p.n, p.edges())
		if sides && hues != d || hues < d || hues > d+1 || d == 0 && hues != 0 {
			t.Errorf("Fewest of %d, %v: %d hues, the degree %d, two sides %t", p.n, p.edges(), hues, d, sides)
		}
	}
	for p := range twoSided(10, 1000, 8) {
		check(p)
	}
	for p := range someGraphs(11, 1000, 8) {
		check(p)
	}
}
