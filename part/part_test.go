package part_test

import (
	"fmt"
	"math"
	"math/rand"
	"slices"
	"testing"

	"forcola/api"
	"forcola/part"
)

func complete(n int) [][2]int { return draw(n, nil).complement().edges() }

// path is the edges of the path 0-1-2 and so on.
func path(n int) [][2]int {
	var l [][2]int
	for i := range n - 1 {
		l = append(l, [2]int{i, i + 1})
	}
	return l
}

// notGraphs are numbers and edges, and what Check returns for them.
var notGraphs = []struct {
	n     int
	edges [][2]int
	want  api.Errno
}{
	{0, nil, api.ErrArg}, {-1, nil, api.ErrArg}, {17, nil, api.ErrArg}, {math.MaxInt, nil, api.ErrArg}, {math.MinInt, nil, api.ErrArg},
	{0, [][2]int{{0, 1}}, api.ErrArg}, {17, [][2]int{{1, 0}}, api.ErrArg}, {17, complete(16), api.ErrArg}, {-2, [][2]int{{5, 5}}, api.ErrArg},
	{1, [][2]int{{0, 0}}, api.ErrGraph}, {1, [][2]int{{0, 1}}, api.ErrGraph}, {2, [][2]int{{1, 0}}, api.ErrGraph}, {2, [][2]int{{0, 2}}, api.ErrGraph}, {2, [][2]int{{-1, 1}}, api.ErrGraph}, {2, [][2]int{{1, 1}}, api.ErrGraph},
	{3, [][2]int{{0, 1}, {0, 1}}, api.ErrGraph}, {3, [][2]int{{0, 2}, {0, 1}}, api.ErrGraph}, {3, [][2]int{{1, 2}, {0, 1}}, api.ErrGraph}, {3, [][2]int{{1, 2}, {0, 2}}, api.ErrGraph}, {3, [][2]int{{0, 1}, {1, 2}, {2, 2}}, api.ErrGraph}, {3, [][2]int{{0, 1}, {1, 2}, {2, 3}}, api.ErrGraph},
	{4, [][2]int{{0, 1}, {1, 2}, {0, 3}}, api.ErrGraph}, {4, [][2]int{{0, 1}, {2, 1}, {2, 3}}, api.ErrGraph}, {15, complete(16), api.ErrGraph},
	{16, append(complete(16), [2]int{14, 15}), api.ErrGraph}, {16, append(complete(16), [2]int{15, 16}), api.ErrGraph}, {16, [][2]int{{math.MinInt, math.MaxInt}}, api.ErrGraph}, {16, [][2]int{{0, math.MaxInt}}, api.ErrGraph}, {16, [][2]int{{-1, 0}}, api.ErrGraph},
	{11, [][2]int{{3, 11}}, api.ErrGraph}, {1, make([][2]int, 200), api.ErrGraph}, {16, make([][2]int, 200), api.ErrGraph},
}

// P4.1: what is a graph, and what is not.
func TestCheck(t *testing.T) {
	for _, x := range notGraphs {
		if e := part.Check(x.n, x.edges); e != x.want {
			t.Errorf("Check of %d, %v: %d, not %d", x.n, x.edges, e, x.want)
		}
	}
	for n := 1; n <= 16; n++ {
		for _, edges := range [][][2]int{nil, {}, path(n), complete(n)} {
			if e := part.Check(n, edges); e != api.OK {
				t.Errorf("Check of %d, %v: %d", n, edges, e)
			}
		}
	}
	for _, x := range [][][2]int{{{0, 15}}, {{14, 15}}, {{0, 2}, {1, 2}}, {{0, 3}, {1, 2}, {1, 15}, {3, 4}}} {
		if e := part.Check(16, x); e != api.OK {
			t.Errorf("Check of %v: %d", x, e)
		}
	}
}

// calls are all calls that take a graph; they report whether all but the error is zero.
func calls(n int, edges [][2]int) map[string]func() (bool, api.Errno) {
	return map[string]func() (bool, api.Errno){
		"Check":      func() (bool, api.Errno) { return true, part.Check(n, edges) },
		"Complement": func() (bool, api.Errno) { l, e := part.Complement(n, edges); return len(l) == 0, e },
		"IsModule":   func() (bool, api.Errno) { ok, e := part.IsModule(n, edges, -1); return !ok, e },
		"Modules":    func() (bool, api.Errno) { l, e := part.Modules(n, edges); return len(l) == 0, e },
		"Strong":     func() (bool, api.Errno) { l, e := part.Strong(n, edges); return len(l) == 0, e },
		"Split": func() (bool, api.Errno) {
			x, e := part.Split(n, edges)
			return x.Kind == 0 && x.Vertex == 0 && len(x.Parts) == 0, e
		},
		"Quotient": func() (bool, api.Errno) { l, e := part.Quotient(n, edges); return len(l) == 0, e },
		"Twins":    func() (bool, api.Errno) { l, e := part.Twins(n, edges); return len(l) == 0, e },
		"Path":     func() (bool, api.Errno) { x, ok, e := part.Path(n, edges); return x == [4]int{} && !ok, e },
		"Shape":    func() (bool, api.Errno) { s, e := part.Shape(n, edges); return s == "", e },
		"Clique":   func() (bool, api.Errno) { x, l, e := part.Clique(n, edges); return x == 0 && len(l) == 0, e },
	}
}

// P4.1: all functions return first what Check returns, whatever else is wrong, and zero values next to it.
func TestFirstWhatCheckReturns(t *testing.T) {
	for _, x := range notGraphs {
		for name, call := range calls(x.n, x.edges) {
			if zero, e := call(); !zero || e != x.want {
				t.Errorf("%s of %d, %v: %d, not %d; zero values %t", name, x.n, x.edges, e, x.want, zero)
			}
		}
	}
	if l, e := part.Modules(11, [][2]int{{1, 0}}); len(l) != 0 || e != api.ErrGraph {
		t.Errorf("Modules: %v, %d", l, e)
	}
	if l, e := part.Quotient(1, [][2]int{{0, 1}}); len(l) != 0 || e != api.ErrGraph {
		t.Errorf("Quotient: %v, %d", l, e)
	}
}

// P4.1: the complement has the edges that the graph has not.
func TestComplement(t *testing.T) {
	for _, x := range []struct {
		n           int
		edges, want [][2]int
	}{
		{1, nil, nil}, {2, nil, [][2]int{{0, 1}}}, {2, [][2]int{{0, 1}}, nil}, {3, [][2]int{{0, 2}}, [][2]int{{0, 1}, {1, 2}}}, {4, path(4), [][2]int{{0, 2}, {0, 3}, {1, 3}}}, {16, nil, complete(16)}, {16, complete(16), nil},
	} {
		if l, e := part.Complement(x.n, x.edges); !slices.Equal(l, x.want) || e != api.OK {
			t.Errorf("Complement of %d, %v: %v, %d", x.n, x.edges, l, e)
		}
	}
	for p := range someGraphs(1, 300, 16) {
		if l, e := part.Complement(p.n, p.edges()); !slices.Equal(l, p.complement().edges()) || e != api.OK {
			t.Errorf("Complement of %d, %v: %v, %d", p.n, p.edges(), l, e)
		}
	}
}

// P4.1: the sets that IsModule takes.
func TestSetsOfIsModule(t *testing.T) {
	for n := 1; n <= 16; n++ {
		for _, set := range []int{-1, -2, 1 << n, 1<<n + 1, 1 << 20, math.MaxInt, math.MinInt} {
			if is, e := part.IsModule(n, path(n), set); is || e != api.ErrArg {
				t.Errorf("IsModule of %d, %d: %t, %d", n, set, is, e)
			}
		}
		for _, set := range []int{1, 1 << (n - 1), 1<<n - 1} {
			if is, e := part.IsModule(n, path(n), set); !is || e != api.OK {
				t.Errorf("IsModule of %d, %d: %t, %d", n, set, is, e)
			}
		}
		if is, e := part.IsModule(n, nil, 0); is || e != api.OK {
			t.Errorf("IsModule of %d and the empty set: %t, %d", n, is, e)
		}
	}
}

// P4.1: modules are what the definition says.
func TestIsModule(t *testing.T) {
	check := func(p picture) {
		for set := range 1 << p.n {
			if is, e := part.IsModule(p.n, p.edges(), set); is != p.isModule(set) || e != api.OK {
				t.Errorf("IsModule of %d, %v, %d: %t, %d", p.n, p.edges(), set, is, e)
			}
		}
	}
	for n := 1; n <= 4; n++ {
		for p := range allGraphs(n) {
			check(p)
		}
	}
	for p := range someGraphs(2, 60, 9) {
		check(p)
	}
	// One vertex sees all but the last of the others.
	p := draw(16, [][2]int{{0, 1}, {0, 2}, {0, 3}, {0, 4}, {0, 5}, {0, 6}, {0, 7}, {0, 8}, {0, 9}, {0, 10}, {0, 11}, {0, 12}, {0, 13}, {0, 14}})
	for set, want := range map[int]bool{1<<15 - 2: true, 1<<16 - 2: false, 1<<16 - 1: true, 1<<15 - 1: true, 1<<15 | 2: false, 6: true} {
		if is, e := part.IsModule(16, p.edges(), set); is != want || e != api.OK {
			t.Errorf("IsModule of %d: %t, %d", set, is, e)
		}
	}
}

// P1 and R7: no call panics, and the same call has the same result.
func TestAnyArguments(t *testing.T) {
	r := rand.New(rand.NewSource(3))
	some := []int{math.MinInt, -1, 0, 1, 2, 3, 15, 16, 17, 63, 64, math.MaxInt}
	for range 3000 {
		n := some[r.Intn(len(some))]
		var edges [][2]int
		for range r.Intn(4) {
			edges = append(edges, [2]int{some[r.Intn(len(some))], some[r.Intn(len(some))]})
		}
		again := calls(n, edges)
		for name, call := range calls(n, edges) {
			zero, e := call()
			if z, f := again[name](); z != zero || e != f {
				t.Errorf("%s of %d, %v: %d, then %d", name, n, edges, e, f)
			}
		}
		part.IsModule(n, edges, some[r.Intn(len(some))])
	}
}

// R4: arguments stay what they are, what is beyond their lengths is not read, and results are new.
func TestMemory(t *testing.T) {
	edges := [][2]int{{0, 1}, {0, 2}, {0, 3}, {9, 9}}
	keep := slices.Clone(edges)
	for name, call := range calls(4, edges[:3]) {
		if _, e := call(); e != api.OK && name != "IsModule" || !slices.Equal(edges, keep) {
			t.Errorf("%s: %d, %v", name, e, edges)
		}
	}
	x, _ := part.Split(4, edges[:3])
	y, _ := part.Split(4, edges[:3])
	x.Parts[1].Parts[0].Vertex = 9
	if fmt.Sprint(y) == fmt.Sprint(x) {
		t.Error("trees share memory")
	}
	l, _ := part.Complement(4, edges[:3])
	l[0] = [2]int{7, 7}
	if m, _ := part.Complement(4, edges[:3]); m[0] != [2]int{1, 2} {
		t.Errorf("Complement again: %v", m)
	}
}
