package hue_test

import (
	"math"
	"slices"
	"testing"

	"forcola/api"
	"forcola/hue"
)

// notGraphs are numbers and edges, and what chapter 4's Check returns for them.
var notGraphs = []struct {
	n     int
	edges [][2]int
	want  api.Errno
}{
	{0, nil, api.ErrArg}, {-1, nil, api.ErrArg}, {17, nil, api.ErrArg}, {math.MaxInt, nil, api.ErrArg}, {math.MinInt, nil, api.ErrArg}, {0, [][2]int{{0, 1}}, api.ErrArg}, {17, [][2]int{{1, 0}}, api.ErrArg}, {17, complete(16), api.ErrArg},
	{1, [][2]int{{0, 0}}, api.ErrGraph}, {1, [][2]int{{0, 1}}, api.ErrGraph}, {2, [][2]int{{1, 0}}, api.ErrGraph}, {2, [][2]int{{-1, 1}}, api.ErrGraph}, {2, [][2]int{{0, 2}}, api.ErrGraph}, {3, [][2]int{{0, 1}, {0, 1}}, api.ErrGraph}, {3, [][2]int{{0, 2}, {0, 1}}, api.ErrGraph}, {3, [][2]int{{1, 2}, {0, 2}}, api.ErrGraph},
	{4, [][2]int{{0, 1}, {1, 2}, {0, 2}, {2, 3}}, api.ErrGraph}, {15, complete(16), api.ErrGraph}, {16, append(complete(16), [2]int{14, 15}), api.ErrGraph}, {16, [][2]int{{math.MinInt, math.MaxInt}}, api.ErrGraph}, {9, [][2]int{{3, 9}}, api.ErrGraph}, {11, [][2]int{{4, 4}}, api.ErrGraph}, {16, make([][2]int, 200), api.ErrGraph},
}

// calls are all calls, with those hues, lists and k; they report whether all but the error is zero.
func calls(n int, edges [][2]int, hues []int, lists [][]int, k int) map[string]func() (bool, api.Errno) {
	return map[string]func() (bool, api.Errno){
		"Degree":    func() (bool, api.Errno) { x, e := hue.Degree(n, edges); return x == 0, e },
		"IsProper":  func() (bool, api.Errno) { ok, e := hue.IsProper(n, edges, hues); return !ok, e },
		"Sides":     func() (bool, api.Errno) { x, ok, e := hue.Sides(n, edges); return x == 0 && !ok, e },
		"OddRing":   func() (bool, api.Errno) { l, ok, e := hue.OddRing(n, edges); return len(l) == 0 && !ok, e },
		"Vizing":    func() (bool, api.Errno) { l, e := hue.Vizing(n, edges); return len(l) == 0, e },
		"Konig":     func() (bool, api.Errno) { l, e := hue.Konig(n, edges); return len(l) == 0, e },
		"Fewest":    func() (bool, api.Errno) { l, e := hue.Fewest(n, edges); return len(l) == 0, e },
		"Galvin":    func() (bool, api.Errno) { l, e := hue.Galvin(n, edges, lists); return len(l) == 0, e },
		"FromLists": func() (bool, api.Errno) { l, ok, e := hue.FromLists(n, edges, lists); return len(l) == 0 && !ok, e },
		"Order":     func() (bool, api.Errno) { l, x, e := hue.Order(n, edges); return len(l) == 0 && x == 0, e },
		"Core":      func() (bool, api.Errno) { x, e := hue.Core(n, edges, k); return x == 0, e },
		"Colours":   func() (bool, api.Errno) { l, ok, e := hue.Colours(n, edges, lists); return len(l) == 0 && !ok, e },
		"Chromatic": func() (bool, api.Errno) { x, l, e := hue.Chromatic(n, edges); return x == 0 && len(l) == 0, e },
	}
}

// P7.1: all functions return first what Check returns, whatever else is wrong, and zero values next to it.
func TestFirstWhatCheckReturns(t *testing.T) {
	for _, x := range notGraphs {
		for _, k := range []int{0, -1, 17} {
			for _, lists := range [][][]int{nil, equal(len(x.edges), 3), {{5, 4}}} {
				for name, call := range calls(x.n, x.edges, make([]int, len(x.edges)), lists, k) {
					if zero, e := call(); !zero || e != x.want {
						t.Errorf("%s of %d, %v, %v, %d: %d, not %d; zero values %t", name, x.n, x.edges, lists, k, e, x.want, zero)
					}
				}
			}
		}
	}
}

// P7.1: graphs of one vertex and of sixteen are graphs.
func TestAllTakeGraphs(t *testing.T) {
	for _, n := range []int{1, 2, 16} {
		for name, call := range calls(n, nil, nil, nil, 0) {
			want := api.OK
			switch name {
			case "Fewest", "Chromatic":
				if n == 16 {
					want = api.ErrLong
				}
			case "Colours":
				want = api.ErrColour
			}
			if _, e := call(); e != want {
				t.Errorf("%s of %d: %d, not %d", name, n, e, want)
			}
		}
	}
}

// P7.1: the degree.
func TestDegree(t *testing.T) {
	for _, x := range []struct {
		n     int
		edges [][2]int
		want  int
	}{
		{1, nil, 0}, {16, nil, 0}, {2, path(2), 1}, {3, complete(3), 2}, {16, path(16), 2}, {16, star(16), 15}, {16, complete(16), 15}, {16, crossed(8, 8), 8}, {16, crossed(3, 13), 13}, {16, [][2]int{{14, 15}}, 1}, {10, petersen().edges(), 3},
		{5, [][2]int{{0, 4}, {1, 4}, {2, 4}, {3, 4}}, 4},
	} {
		if d, e := hue.Degree(x.n, x.edges); d != x.want || e != api.OK {
			t.Errorf("Degree of %d, %v: %d, %d", x.n, x.edges, d, e)
		}
	}
	for p := range someGraphs(1, 300, 16) {
		if d, e := hue.Degree(p.n, p.edges()); d != p.degree() || e != api.OK {
			t.Errorf("Degree of %d, %v: %d, %d", p.n, p.edges(), d, e)
		}
	}
}

// P7.1: which hues are proper.
func TestIsProper(t *testing.T) {
	for _, x := range []struct {
		n     int
		edges [][2]int
		hues  []int
		want  bool
	}{
		{1, nil, nil, true}, {16, nil, []int{}, true}, {2, path(2), []int{0}, true}, {2, path(2), []int{math.MaxInt}, true}, {3, path(3), []int{0, 1}, true}, {3, path(3), []int{7, 7}, false}, {4, path(4), []int{5, 3, 5}, true}, {4, path(4), []int{5, 5, 3}, false},
		{3, complete(3), []int{0, 1, 2}, true}, {3, complete(3), []int{0, 1, 1}, false}, {3, complete(3), []int{1, 0, 1}, false}, {3, complete(3), []int{1, 1, 0}, false}, {3, complete(3), []int{math.MaxInt, 0, math.MaxInt - 1}, true},
		{4, [][2]int{{0, 1}, {2, 3}}, []int{4, 4}, true}, {4, [][2]int{{0, 3}, {1, 3}}, []int{4, 4}, false}, {4, [][2]int{{0, 1}, {0, 3}}, []int{4, 4}, false}, {3, path(3), []int{1 << 32, 0}, true}, {3, path(3), []int{64, 0}, true},
	} {
		if ok, e := hue.IsProper(x.n, x.edges, x.hues); ok != x.want || e != api.OK {
			t.Errorf("IsProper of %d, %v, %v: %t, %d", x.n, x.edges, x.hues, ok, e)
		}
	}
	for n := 1; n <= 4; n++ {
		for p := range allGraphs(n) {
			if len(p.edges()) > 5 {
				continue
			}
			for hues := range choices(equal(len(p.edges()), 4)) {
				if ok, e := hue.IsProper(n, p.edges(), hues); ok != p.areProper(hues) || e != api.OK {
					t.Errorf("IsProper of %d, %v, %v: %t, %d", n, p.edges(), hues, ok, e)
				}
			}
		}
	}
	// Two edges that meet at the end of a great graph.
	hues := make([]int, 120)
	for i := range hues {
		hues[i] = i
	}
	if ok, e := hue.IsProper(16, complete(16), hues); !ok || e != api.OK {
		t.Errorf("IsProper of all edges: %t, %d", ok, e)
	}
	hues[117] = 119
	if ok, e := hue.IsProper(16, complete(16), hues); ok || e != api.OK {
		t.Errorf("IsProper of all edges: %t, %d", ok, e)
	}
}

// P7.1: what are no hues of the edges.
func TestNoHues(t *testing.T) {
	for _, x := range []struct {
		n     int
		edges [][2]int
		hues  []int
	}{
		{1, nil, []int{0}}, {16, nil, []int{0, 1}}, {2, path(2), nil}, {2, path(2), []int{0, 1}}, {2, path(2), []int{-1}}, {2, path(2), []int{math.MinInt}}, {3, path(3), []int{0}}, {3, path(3), []int{0, 1, 2}}, {3, path(3), []int{0, -1}}, {3, path(3), []int{-1, 0}}, {3, path(3), []int{-1, -1}}, {3, path(3), []int{0, 0, 0}},
		{3, complete(3), []int{2, 2, -2}}, {16, complete(16), make([]int, 119)}, {16, complete(16), make([]int, 121)}, {3, path(3), make([]int, 1000)},
	} {
		if ok, e := hue.IsProper(x.n, x.edges, x.hues); ok || e != api.ErrColour {
			t.Errorf("IsProper of %d, %v, %v: %t, %d", x.n, x.edges, x.hues, ok, e)
		}
	}
}

// checkSides compares Sides and OddRing to their definitions: a set or a ring shows by itself which of them exists.
func checkSides(t *testing.T, p picture) {
	set, ok, e := hue.Sides(p.n, p.edges())
	l, odd, f := hue.OddRing(p.n, p.edges())
	if ok == odd || e != api.OK || f != api.OK {
		t.Errorf("Sides of %d, %v: %t, %d, and OddRing: %t, %d", p.n, p.edges(), ok, e, odd, f)
	}
	if ok && !p.isFirstSide(set) || !ok && set != 0 {
		t.Errorf("Sides of %d, %v: %d, %t", p.n, p.edges(), set, ok)
	}
	if odd && !p.isOddRing(l) || !odd && len(l) != 0 {
		t.Errorf("OddRing of %d, %v: %v, %t", p.n, p.edges(), l, odd)
	}
}

// P7.1, P7.5, W1: a graph has two sides, or an odd ring.
func TestSidesAndOddRings(t *testing.T) {
	for n := 1; n <= 5; n++ {
		for p := range allGraphs(n) {
			checkSides(t, p)
			if _, ok, _ := hue.Sides(n, p.edges()); ok != p.hasSides() {
				t.Errorf("Sides of %d, %v: %t", n, p.edges(), ok)
			}
		}
	}
	for p := range someGraphs(2, 1000, 16) {
		checkSides(t, p)
	}
	for n := 3; n <= 16; n++ {
		for _, edges := range [][][2]int{ring(n), path(n), star(n), complete(n)} {
			checkSides(t, draw(n, edges))
			checkSides(t, draw(16, edges))
		}
	}
	checkSides(t, petersen())
}

// P7.1: the side of the least vertices, in some graphs.
func TestSides(t *testing.T) {
	for _, x := range []struct {
		n     int
		edges [][2]int
		want  int
	}{
		{1, nil, 1}, {3, nil, 7}, {16, nil, 1<<16 - 1}, {2, path(2), 1}, {4, ring(4), setOf(0, 2)}, {16, ring(16), 0x5555}, {16, star(16), 1}, {16, crossed(8, 8), 255}, {16, crossed(3, 13), 7},
		{4, [][2]int{{0, 3}, {1, 3}, {2, 3}}, setOf(0, 1, 2)}, {5, [][2]int{{1, 2}, {3, 4}}, setOf(0, 1, 3)}, {5, [][2]int{{0, 4}, {1, 4}}, setOf(0, 1, 2, 3)},
		{6, [][2]int{{0, 5}, {1, 4}, {2, 4}, {2, 5}}, setOf(0, 1, 2, 3)}, // 0, 5, 2, 4, 1 in a row
		{6, [][2]int{{1, 5}, {2, 3}, {2, 5}}, setOf(0, 1, 2, 4)}, {6, [][2]int{{1, 5}, {2, 3}, {3, 5}}, setOf(0, 1, 3, 4)},
	} {
		if set, ok, e := hue.Sides(x.n, x.edges); set != x.want || !ok || e != api.OK {
			t.Errorf("Sides of %d, %v: %d, %t, %d", x.n, x.edges, set, ok, e)
		}
	}
}

// P7.1: the odd rings of graphs that have only one.
func TestOddRing(t *testing.T) {
	for n := 3; n <= 15; n += 2 {
		l, ok, e := hue.OddRing(n, ring(n))
		if slices.Sort(l); !slices.Equal(l, draw(n, nil).vertices()) || !ok || e != api.OK {
			t.Errorf("OddRing of the ring of %d: %v, %t, %d", n, l, ok, e)
		}
	}
	for _, x := range []struct {
		n     int
		edges [][2]int
		want  []int
	}{
		{3, complete(3), []int{0, 1, 2}},
		{5, [][2]int{{0, 1}, {1, 2}, {2, 3}, {2, 4}, {3, 4}}, []int{2, 3, 4}},                 // far from 0
		{6, [][2]int{{0, 1}, {0, 2}, {0, 5}, {1, 2}, {3, 4}}, []int{0, 1, 2}},                 // of two parts
		{6, [][2]int{{0, 1}, {3, 4}, {3, 5}, {4, 5}}, []int{3, 4, 5}},                         // in the second part
		{7, [][2]int{{0, 1}, {0, 3}, {1, 2}, {2, 3}, {4, 5}, {4, 6}, {5, 6}}, []int{4, 5, 6}}, // behind an even ring
		{8, [][2]int{{0, 7}, {1, 2}, {1, 7}, {2, 3}, {3, 4}, {4, 7}}, []int{1, 2, 3, 4, 7}},
	} {
		l, ok, e := hue.OddRing(x.n, x.edges)
		if !draw(x.n, x.edges).isOddRing(l) || !ok || e != api.OK {
			t.Errorf("OddRing of %d, %v: %v, %t, %d", x.n, x.edges, l, ok, e)
		}
		if slices.Sort(l); !slices.Equal(l, x.want) {
			t.Errorf("OddRing of %d, %v: %v", x.n, x.edges, l)
		}
	}
}
