package hue_test

import (
	"math"
	"math/rand"
	"slices"
	"testing"

	"forcola/api"
	"forcola/hue"
)

// badLists are no right lists for one edge, or for one vertex.
var badLists = [][][]int{
	nil, {}, {{0}, {0}}, {{0}, nil}, make([][]int, 16), {{-1}}, {{64}}, {{0, 64}}, {{-1, 0}}, {{0, 0}}, {{1, 0}}, {{3, 5, 4}}, {{3, 5, 5}}, {{math.MaxInt}}, {{math.MinInt}}, {{math.MinInt, 3}}, {{63, 62}}, {{0, 1, 2, math.MaxInt}}, {equal(1, 64)[0], {1}}, {equal(1, 65)[0]}, {make([]int, 1000)}, {{1 << 32}}, {{0, 1<<32 + 1}},
}

// P7.3, P7.4: what is not right as lists; that comes before all other errors.
func TestBadLists(t *testing.T) {
	for _, lists := range badLists {
		if l, e := hue.Galvin(2, path(2), lists); len(l) != 0 || e != api.ErrColour {
			t.Errorf("Galvin with %v: %v, %d", lists, l, e)
		}
		if l, ok, e := hue.FromLists(2, path(2), lists); len(l) != 0 || ok || e != api.ErrColour {
			t.Errorf("FromLists with %v: %v, %t, %d", lists, l, ok, e)
		}
		if l, ok, e := hue.Colours(1, nil, lists); len(l) != 0 || ok || e != api.ErrColour {
			t.Errorf("Colours with %v: %v, %t, %d", lists, l, ok, e)
		}
		if len(lists) != 1 {
			continue
		}
		// One bad list among good ones.
		for at := range 4 {
			good := equal(4, 5)
			good[at] = lists[0]
			if l, e := hue.Galvin(5, path(5), good); len(l) != 0 || e != api.ErrColour {
				t.Errorf("Galvin with %v: %v, %d", good, l, e)
			}
			if l, ok, e := hue.FromLists(5, path(5), good); len(l) != 0 || ok || e != api.ErrColour {
				t.Errorf("FromLists with %v: %v, %t, %d", good, l, ok, e)
			}
			if l, ok, e := hue.Colours(4, path(4), good); len(l) != 0 || ok || e != api.ErrColour {
				t.Errorf("Colours with %v: %v, %t, %d", good, l, ok, e)
			}
		}
		// Graphs without two sides, lists shorter than the degree, too many edges and vertices.
		many := equal(120, 3)
		many[119] = lists[0]
		if l, e := hue.Galvin(16, complete(16), many); len(l) != 0 || e != api.ErrColour {
			t.Errorf("Galvin with %v: %v, %d", many, l, e)
		}
		if l, ok, e := hue.FromLists(16, complete(16), many); len(l) != 0 || ok || e != api.ErrColour {
			t.Errorf("FromLists with %v: %v, %t, %d", many, l, ok, e)
		}
		if l, ok, e := hue.Colours(16, nil, many[104:]); len(l) != 0 || ok || e != api.ErrColour {
			t.Errorf("Colours with %v: %v, %t, %d", many, l, ok, e)
		}
	}
	for _, n := range []int{11, 16} {
		for _, count := range []int{0, 1, n - 1, n + 1} {
			if l, ok, e := hue.Colours(n, nil, equal(count, 2)); len(l) != 0 || ok || e != api.ErrColour {
				t.Errorf("Colours of %d with %d lists: %v, %t, %d", n, count, l, ok, e)
			}
		}
	}
	for _, count := range []int{0, 1, 12, 14} {
		if l, ok, e := hue.FromLists(14, path(14), equal(count, 2)); len(l) != 0 || ok || e != api.ErrColour {
			t.Errorf("FromLists with %d lists: %v, %t, %d", count, l, ok, e)
		}
	}
	if l, e := hue.Galvin(1, nil, [][]int{{0}}); len(l) != 0 || e != api.ErrColour {
		t.Errorf("Galvin without edges: %v, %d", l, e)
	}
	if l, ok, e := hue.FromLists(1, nil, [][]int{nil}); len(l) != 0 || ok || e != api.ErrColour {
		t.Errorf("FromLists without edges: %v, %t, %d", l, ok, e)
	}
}

// P7.3: the errors of Galvin, one after the other.
func TestErrorsOfGalvin(t *testing.T) {
	for _, x := range []struct {
		n     int
		edges [][2]int
		lists [][]int
		want  api.Errno
	}{
		{3, complete(3), equal(3, 3), api.ErrNone}, {3, complete(3), equal(3, 1), api.ErrNone}, {3, complete(3), equal(3, 0), api.ErrNone}, {15, ring(15), equal(15, 64), api.ErrNone}, {16, complete(16), equal(120, 64), api.ErrNone},
		{2, path(2), [][]int{nil}, api.ErrArg}, {3, path(3), equal(2, 1), api.ErrArg}, {3, path(3), [][]int{{0, 1}, {0}}, api.ErrArg}, {3, path(3), [][]int{nil, {0, 1}}, api.ErrArg}, {16, star(16), equal(15, 14), api.ErrArg}, {16, crossed(8, 8), equal(64, 7), api.ErrArg},
		// An edge far from where the degree is, too, needs as many.
		{6, [][2]int{{0, 1}, {0, 2}, {0, 3}, {4, 5}}, [][]int{{0, 1, 2}, {0, 1, 2}, {0, 1, 2}, {0, 1}}, api.ErrArg},
	} {
		if l, e := hue.Galvin(x.n, x.edges, x.lists); len(l) != 0 || e != x.want {
			t.Errorf("Galvin of %d, %v with %v: %v, %d, not %d", x.n, x.edges, x.lists, l, e, x.want)
		}
	}
}

// checkGalvin compares Galvin to its definition, where it is to find hues.
func checkGalvin(t *testing.T, p picture, lists [][]int) {
	l, e := hue.Galvin(p.n, p.edges(), lists)
	if e != api.OK || !p.areProper(l) || !areFrom(l, lists) {
		t.Errorf("Galvin of %d, %v with %v: %v, %d", p.n, p.edges(), lists, l, e)
	}
}

// P7.3, W5: lists as long as the degree are enough for two sides.
func TestGalvin(t *testing.T) {
	r := rand.New(rand.NewSource(12))
	checkLists := func(p picture) {
		count, d := len(p.edges()), p.degree()
		checkGalvin(t, p, equal(count, d))
		for _, limit := range []int{d + 1, d + 2, 2*d + 1, 64} {
			checkGalvin(t, p, someLists(r, count, d, d, limit))
		}
		checkGalvin(t, p, someLists(r, count, d, d+3, 64))
	}
	for n := 1; n <= 5; n++ {
		for p := range allGraphs(n) {
			if p.hasSides() {
				checkLists(p)
			}
		}
	}
	for p := range twoSided(13, 1500, 16) {
		checkLists(p)
	}
	for n := 1; n <= 16; n++ {
		for a := range n + 1 {
			checkLists(draw(n, crossed(a, n-a)).renumbered(r.Perm(n)))
		}
	}
	// The last numbers that there are.
	lists := make([][]int, 64)
	for i := range lists {
		lists[i] = []int{56, 57, 58, 59, 60, 61, 62, 63}
	}
	checkGalvin(t, draw(16, crossed(8, 8)), lists)
	checkGalvin(t, draw(16, crossed(8, 8)), equal(64, 64))
	if l, e := hue.Galvin(3, star(3), equal(2, 2)); !slices.Equal(l, []int{0, 1}) && !slices.Equal(l, []int{1, 0}) || e != api.OK {
		t.Errorf("Galvin of the star: %v, %d", l, e)
	}
	if l, e := hue.Galvin(16, nil, nil); len(l) != 0 || e != api.OK {
		t.Errorf("Galvin without edges: %v, %d", l, e)
	}
}

// checkFromLists compares FromLists to a plain search, if the lists are short.
func checkFromLists(t *testing.T, p picture, lists [][]int) {
	l, ok, e := hue.FromLists(p.n, p.edges(), lists)
	if e != api.OK || ok && !(p.areProper(l) && areFrom(l, lists)) || !ok && len(l) != 0 {
		t.Errorf("FromLists of %d, %v with %v: %v, %t, %d", p.n, p.edges(), lists, l, ok, e)
	}
	if !ok && exists(lists, p.areProper) {
		t.Errorf("FromLists of %d, %v with %v: none", p.n, p.edges(), lists)
	}
}

// P7.3: hues from lists, or none.
func TestFromLists(t *testing.T) {
	r := rand.New(rand.NewSource(14))
	for n := 1; n <= 4; n++ {
		for p := range allGraphs(n) {
			count := len(p.edges())
			for limit := 1; limit <= 4; limit++ {
				checkFromLists(t, p, equal(count, limit))
				for range 20 {
					checkFromLists(t, p, someLists(r, count, 0, limit, limit))
					checkFromLists(t, p, someLists(r, count, 1, 2, limit))
				}
			}
		}
	}
	for p := range someGraphs(15, 4000, 8) {
		if count := len(p.edges()); count <= 8 {
			for _, limit := range []int{2, 3, 4, 5} {
				checkFromLists(t, p, someLists(r, count, 1, 3, limit))
				checkFromLists(t, p, someLists(r, count, 2, 2, limit))
			}
		}
	}
}

// P7.3: graphs of many edges with hues from short lists, some of which are made from hues.
func TestFromListsThatExist(t *testing.T) {
	r := rand.New(rand.NewSource(16))
	for p := range someGraphs(17, 3000, 16) {
		edges := p.edges()
		if len(edges) > 12 {
			p = draw(p.n, edges[:12])
		}
		hues, e := hue.Vizing(p.n, p.edges())
		if e != api.OK {
			t.Fatal(e)
		}
		lists := someLists(r, len(hues), 0, 2, 1+r.Intn(64))
		for i, h := range hues {
			if !slices.Contains(lists[i], 4*h) {
				lists[i] = append(lists[i], 4*h)
				slices.Sort(lists[i])
			}
		}
		l, ok, e := hue.FromLists(p.n, p.edges(), lists)
		if !ok || e != api.OK || !p.areProper(l) || !areFrom(l, lists) {
			t.Errorf("FromLists of %d, %v with %v: %v, %t, %d", p.n, p.edges(), lists, l, ok, e)
		}
	}
}

// P7.3: some lists, long ones too.
func TestSomeFromLists(t *testing.T) {
	two := [][]int{{0, 1}, {0, 1}, {0, 1}}
	for _, x := range []struct {
		n     int
		edges [][2]int
		lists [][]int
		want  bool
	}{
		{1, nil, nil, true}, {16, nil, [][]int{}, true}, {2, path(2), [][]int{nil}, false}, {2, path(2), [][]int{{}}, false}, {2, path(2), [][]int{{63}}, true}, {2, path(2), [][]int{{0}}, true}, {2, path(2), equal(1, 64), true},
		{3, path(3), equal(2, 2), true}, {3, path(3), [][]int{{7}, {7}}, false}, {3, path(3), [][]int{{7}, {63}}, true}, {3, complete(3), two, false}, {3, complete(3), [][]int{{0, 1}, {0, 1}, {0, 2}}, true}, {3, complete(3), [][]int{{0, 1}, {0, 2}, {1, 2}}, true}, {4, ring(4), [][]int{{0, 1}, {0, 1}, {0, 1}, {0, 1}}, true},
		{4, ring(4), [][]int{{0}, {1}, {1}, {0}}, true}, {4, ring(4), [][]int{{0}, {0, 1}, {1, 2}, {2}}, true}, {4, ring(4), [][]int{{0}, {0, 1}, {0, 1}, {1}}, false}, {3, path(3), [][]int{{5}, nil}, false},
		{13, star(13), equal(12, 12), true}, {13, star(13), equal(12, 11), false}, {13, star(13), equal(12, 64), true}, {13, path(13), equal(12, 2), true}, {13, path(13), equal(12, 1), false}, {7, crossed(3, 4), equal(12, 4), true}, {7, crossed(3, 4), equal(12, 3), false}, {11, ring(11), equal(11, 2), false}, {12, ring(12), equal(12, 2), true}, {8, crossed(2, 6), equal(12, 6), true}, {8, crossed(2, 6), equal(12, 5), false},
		{5, complete(5), equal(10, 5), true}, {5, complete(5), equal(10, 4), false}, {4, complete(4), equal(6, 3), true}, {4, complete(4), equal(6, 2), false}, {16, path(13), equal(12, 64), true},
	} {
		l, ok, e := hue.FromLists(x.n, x.edges, x.lists)
		if ok != x.want || e != api.OK || ok && !(draw(x.n, x.edges).areProper(l) && areFrom(l, x.lists)) || !ok && len(l) != 0 {
			t.Errorf("FromLists of %d, %v with %v: %v, %t, %d", x.n, x.edges, x.lists, l, ok, e)
		}
	}
	for _, x := range []picture{draw(14, path(14)), draw(14, star(14)), draw(13, ring(13)), draw(16, complete(16)), draw(16, crossed(8, 8)), draw(6, complete(6)[:13])} {
		for _, most := range []int{0, 1, 64} {
			if l, ok, e := hue.FromLists(x.n, x.edges(), equal(len(x.edges()), most)); len(l) != 0 || ok || e != api.ErrLong {
				t.Errorf("FromLists of %d, %v: %v, %t, %d", x.n, x.edges(), l, ok, e)
			}
		}
	}
}

// checkColours compares Colours to a plain search, if the lists are short.
func checkColours(t *testing.T, p picture, lists [][]int) {
	l, ok, e := hue.Colours(p.n, p.edges(), lists)
	if e != api.OK || ok && !(p.areColours(l) && areFrom(l, lists)) || !ok && len(l) != 0 {
		t.Errorf("Colours of %d, %v with %v: %v, %t, %d", p.n, p.edges(), lists, l, ok, e)
	}
	if !ok && exists(lists, p.areColours) {
		t.Errorf("Colours of %d, %v with %v: none", p.n, p.edges(), lists)
	}
}

// P7.4: colours from lists, or none.
func TestColours(t *testing.T) {
	r := rand.New(rand.NewSource(18))
	for n := 1; n <= 5; n++ {
		for p := range allGraphs(n) {
			for limit := 1; limit <= 4; limit++ {
				checkColours(t, p, equal(n, limit))
				for range 3 {
					checkColours(t, p, someLists(r, n, 0, limit, limit))
					checkColours(t, p, someLists(r, n, 1, 2, limit))
				}
			}
		}
	}
	for p := range someGraphs(19, 1500, 10) {
		for _, limit := range []int{2, 3, 4, 6} {
			checkColours(t, p, someLists(r, p.n, 2, 2, limit))
			if p.n <= 8 {
				checkColours(t, p, someLists(r, p.n, 1, 3, limit))
			}
		}
		checkColours(t, p, someLists(r, p.n, p.n, p.n, 64))
	}
}

// P7.4: some lists of vertices, long ones too.
func TestSomeColours(t *testing.T) {
	for _, x := range []struct {
		n     int
		edges [][2]int
		lists [][]int
		want  bool
	}{
		{1, nil, [][]int{{0}}, true}, {1, nil, [][]int{{63}}, true}, {1, nil, [][]int{nil}, false}, {2, nil, [][]int{{4}, {4}}, true}, {2, nil, [][]int{{4}, {}}, false}, {2, path(2), [][]int{{4}, {4}}, false}, {2, path(2), [][]int{{4}, {5}}, true}, {10, nil, equal(10, 1), true}, {10, nil, equal(10, 64), true}, {10, nil, equal(10, 0), false},
		{10, complete(10), equal(10, 10), true}, {10, complete(10), equal(10, 9), false}, {10, complete(10), equal(10, 64), true}, {10, petersen().edges(), equal(10, 3), true}, {10, petersen().edges(), equal(10, 2), false}, {9, ring(9), equal(9, 2), false}, {10, ring(10), equal(10, 2), true},
		// Two sides, but lists of two are not enough.
		{6, crossed(2, 4), [][]int{{0, 1}, {2, 3}, {0, 2}, {0, 3}, {1, 2}, {1, 3}}, false}, {6, crossed(3, 3), [][]int{{0, 1}, {0, 2}, {1, 2}, {0, 1}, {0, 2}, {1, 2}}, false}, {6, crossed(3, 3), [][]int{{0, 1}, {0, 2}, {1, 2}, {0, 1}, {0, 2}, {1, 3}}, true},
	} {
		l, ok, e := hue.Colours(x.n, x.edges, x.lists)
		if ok != x.want || e != api.OK || ok && !(draw(x.n, x.edges).areColours(l) && areFrom(l, x.lists)) || !ok && len(l) != 0 {
			t.Errorf("Colours of %d, %v with %v: %v, %t, %d", x.n, x.edges, x.lists, l, ok, e)
		}
	}
	for n := 11; n <= 16; n++ {
		for _, most := range []int{0, 1, 64} {
			if l, ok, e := hue.Colours(n, path(n), equal(n, most)); len(l) != 0 || ok || e != api.ErrLong {
				t.Errorf("Colours of %d: %v, %t, %d", n, l, ok, e)
			}
		}
	}
}

// P7.4: the least number of colours.
func TestChromatic(t *testing.T) {
	check := func(p picture) {
		k, l, e := hue.Chromatic(p.n, p.edges())
		if e != api.OK || !p.areColours(l) || len(slices.Compact(slices.Sorted(slices.Values(l)))) != k || slices.Max(l) != k-1 {
			t.Errorf("Chromatic of %d, %v: %d, %v, %d", p.n, p.edges(), k, l, e)
		}
		if k > 1 && exists(equal(p.n, k-1), p.areColours) {
			t.Errorf("Chromatic of %d, %v: %d", p.n, p.edges(), k)
		}
	}
	for n := 1; n <= 5; n++ {
		for p := range allGraphs(n) {
			check(p)
		}
	}
	for p := range someGraphs(20, 300, 7) {
		check(p)
	}
	for _, x := range []struct {
		n     int
		edges [][2]int
		want  int
	}{
		{1, nil, 1}, {10, nil, 1}, {2, path(2), 2}, {10, path(10), 2}, {10, ring(10), 2}, {9, ring(9), 3}, {10, complete(10), 10}, {10, complete(9), 9}, {10, crossed(5, 5), 2}, {10, petersen().edges(), 3}, {10, star(10), 2}, {10, ring(5), 3},
	} {
		k, l, e := hue.Chromatic(x.n, x.edges)
		if k != x.want || e != api.OK || !draw(x.n, x.edges).areColours(l) || slices.Max(l) != k-1 {
			t.Errorf("Chromatic of %d, %v: %d, %v, %d", x.n, x.edges, k, l, e)
		}
	}
	for n := 11; n <= 16; n++ {
		for _, edges := range [][][2]int{nil, path(n), complete(n)} {
			if k, l, e := hue.Chromatic(n, edges); k != 0 || len(l) != 0 || e != api.ErrLong {
				t.Errorf("Chromatic of %d: %d, %v, %d", n, k, l, e)
			}
		}
	}
}
