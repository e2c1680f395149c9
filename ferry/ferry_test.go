package ferry_test

import (
	"math"
	"slices"
	"testing"

	"forcola/api"
	"forcola/ferry"
)

// notPassengers are numbers and edges, and what Check returns for them.
var notPassengers = []struct {
	n     int
	edges [][2]int
	want  api.Errno
}{
	{0, nil, api.ErrArg}, {-1, nil, api.ErrArg}, {17, nil, api.ErrArg}, {math.MaxInt, nil, api.ErrArg}, {math.MinInt, nil, api.ErrArg}, {0, [][2]int{{0, 1}}, api.ErrArg}, {17, [][2]int{{1, 0}}, api.ErrArg}, {17, complete(16), api.ErrArg}, {1 << 32, nil, api.ErrArg}, {1<<32 + 3, path(3), api.ErrArg},
	{1, [][2]int{{0, 0}}, api.ErrGraph}, {1, [][2]int{{0, 1}}, api.ErrGraph}, {2, [][2]int{{1, 0}}, api.ErrGraph}, {2, [][2]int{{-1, 1}}, api.ErrGraph}, {2, [][2]int{{0, 2}}, api.ErrGraph}, {3, [][2]int{{0, 1}, {0, 1}}, api.ErrGraph}, {3, [][2]int{{0, 2}, {0, 1}}, api.ErrGraph}, {3, [][2]int{{1, 2}, {0, 2}}, api.ErrGraph},
	{10, [][2]int{{3, 10}}, api.ErrGraph}, {10, complete(11), api.ErrGraph}, {10, [][2]int{{4, 4}}, api.ErrGraph}, {10, [][2]int{{math.MinInt, math.MaxInt}}, api.ErrGraph},
	{11, [][2]int{{4, 4}}, api.ErrGraph}, {11, [][2]int{{3, 11}}, api.ErrGraph}, {15, complete(16), api.ErrGraph}, {16, append(complete(16), [2]int{14, 15}), api.ErrGraph}, {16, make([][2]int, 200), api.ErrGraph},
	{11, nil, api.ErrLong}, {11, complete(11), api.ErrLong}, {11, path(3), api.ErrLong}, {12, pairs(6), api.ErrLong}, {16, nil, api.ErrLong}, {16, complete(16), api.ErrLong}, {16, [][2]int{{14, 15}}, api.ErrLong},
}

// calls are all calls that return an error, with that set or so many seats; they report whether all but the error is zero.
func calls(n int, edges [][2]int, number int) map[string]func() (bool, api.Errno) {
	return map[string]func() (bool, api.Errno){
		"Check":   func() (bool, api.Errno) { return true, ferry.Check(n, edges) },
		"IsQuiet": func() (bool, api.Errno) { ok, e := ferry.IsQuiet(n, edges, number); return !ok, e },
		"Cover":   func() (bool, api.Errno) { x, e := ferry.Cover(n, edges); return x == 0, e },
		"Least":   func() (bool, api.Errno) { x, e := ferry.Least(n, edges); return x == 0, e },
		"Plan":    func() (bool, api.Errno) { l, ok, e := ferry.Plan(n, edges, number); return len(l) == 0 && !ok, e },
		"Structure": func() (bool, api.Errno) {
			x, ok, e := ferry.Structure(n, edges, number)
			return x == [5]int{} && !ok, e
		},
	}
}

// P8.1: all functions return first what Check returns, whatever else is wrong, and zero values next to it.
func TestFirstWhatCheckReturns(t *testing.T) {
	for _, x := range notPassengers {
		for _, number := range []int{0, 1, 5, 10, 11, -1, 1 << 10, math.MaxInt, math.MinInt} {
			for name, call := range calls(x.n, x.edges, number) {
				if zero, e := call(); !zero || e != x.want {
					t.Errorf("%s of %d, %v, %d: %d, not %d; zero values %t", name, x.n, x.edges, number, e, x.want, zero)
				}
			}
		}
	}
}

// P8.1: what would be a plan or a structure, were it not for the passengers, is none.
func TestNoPlansWithoutPassengers(t *testing.T) {
	for _, x := range notPassengers {
		for _, plan := range [][]int{nil, {0}, {1}, {3}, {1<<10 - 1}, {1<<11 - 1}, {1<<16 - 1}} {
			if ferry.IsPlan(x.n, x.edges, 16, plan) {
				t.Errorf("IsPlan of %d, %v, %v", x.n, x.edges, plan)
			}
		}
		for _, s := range [][5]int{{}, {0, 0, 0, 1, 1}, {0, 0, 0, 1, 2}, {2, 0, 0, 1, 1}, {1<<11 - 2, 0, 0, 1, 1}, {1<<16 - 2, 0, 0, 1, 1}} {
			if ferry.IsStructure(x.n, x.edges, 16, s) {
				t.Errorf("IsStructure of %d, %v, %v", x.n, x.edges, s)
			}
		}
	}
}

// P8.1: up to ten passengers are taken by all functions.
func TestAllTakePassengers(t *testing.T) {
	for n := 1; n <= 10; n++ {
		for _, edges := range [][][2]int{nil, complete(n), path(n), star(n)} {
			for name, call := range calls(n, edges, 1) {
				if _, e := call(); e != api.OK {
					t.Errorf("%s of %d, %v: %d", name, n, edges, e)
				}
			}
			if !ferry.IsPlan(n, edges, n, []int{1<<n - 1}) || !ferry.IsStructure(n, nil, n, [5]int{1<<n - 2, 0, 0, 1, 1}) {
				t.Errorf("IsPlan and IsStructure of %d, %v", n, edges)
			}
		}
	}
}

// P8.1: which sets are quiet, and which are no sets.
func TestIsQuiet(t *testing.T) {
	check := func(p picture) {
		for set := range 1 << p.n {
			if ok, e := ferry.IsQuiet(p.n, p.edges(), set); ok != p.isQuiet(set) || e != api.OK {
				t.Errorf("IsQuiet of %d, %v, %d: %t, %d", p.n, p.edges(), set, ok, e)
			}
		}
		for _, set := range []int{-1, 1 << p.n, 1<<p.n + 1, -1 << p.n, 1 << 16, 1 << 32, 1<<32 + 1, math.MaxInt, math.MinInt} {
			if ok, e := ferry.IsQuiet(p.n, p.edges(), set); ok || e != api.ErrArg {
				t.Errorf("IsQuiet of %d, %v, %d: %t, %d", p.n, p.edges(), set, ok, e)
			}
		}
	}
	for n := 1; n <= 5; n++ {
		for p := range allPictures(n) {
			check(p)
		}
	}
	for p := range somePictures(1, 100, 6, 10) {
		check(p)
	}
	for _, x := range []struct {
		n     int
		edges [][2]int
		set   int
		want  bool
	}{
		{1, nil, 0, true}, {1, nil, 1, true}, {3, path(3), 5, true}, {3, path(3), 3, false}, {3, path(3), 6, false}, {3, path(3), 7, false}, {10, complete(10), 512, true}, {10, complete(10), 768, false}, {10, nil, 1023, true}, {10, [][2]int{{8, 9}}, 511, true}, {10, [][2]int{{0, 9}}, 513, false},
	} {
		if ok, e := ferry.IsQuiet(x.n, x.edges, x.set); ok != x.want || e != api.OK {
			t.Errorf("IsQuiet of %d, %v, %d: %t, %d", x.n, x.edges, x.set, ok, e)
		}
	}
}

// P8.1: the first of the covers with the fewest passengers.
func TestCover(t *testing.T) {
	check := func(p picture) {
		if set, e := ferry.Cover(p.n, p.edges()); set != p.cover() || e != api.OK {
			t.Errorf("Cover of %d, %v: %d, %d", p.n, p.edges(), set, e)
		}
	}
	for n := 1; n <= 5; n++ {
		for p := range allPictures(n) {
			check(p)
		}
	}
	for p := range somePictures(2, 300, 6, 10) {
		check(p)
	}
	for p := range builtPictures(3) {
		check(p)
	}
	for _, x := range []struct {
		n     int
		edges [][2]int
		want  int
	}{
		{1, nil, 0}, {10, nil, 0}, {3, path(3), 2}, {3, complete(3), 3}, {2, path(2), 1}, {10, complete(10), 511}, {10, star(10), 1}, {10, pairs(5), 0b0101010101}, {4, path(4), 5}, {5, path(5), 0b1010}, {4, [][2]int{{0, 3}, {1, 3}, {2, 3}}, 8}, {10, [][2]int{{8, 9}}, 256}, {10, crossed(5, 5), 31}, {10, crossed(6, 4), 0b1111000000},
	} {
		if set, e := ferry.Cover(x.n, x.edges); set != x.want || e != api.OK {
			t.Errorf("Cover of %d, %v: %d, %d", x.n, x.edges, set, e)
		}
	}
}

// checkLeast compares Least to a search for plans of all numbers of seats.
func checkLeast(t *testing.T, p picture) {
	want := 0
	for p.fewestTrips(want) == 0 {
		want++
	}
	if b, e := ferry.Least(p.n, p.edges()); b != want || e != api.OK {
		t.Errorf("Least of %d, %v: %d, %d", p.n, p.edges(), b, e)
	}
}

// P8.1: the least number of seats with a plan.
func TestLeast(t *testing.T) {
	for n := 1; n <= 5; n++ {
		for p := range allPictures(n) {
			checkLeast(t, p)
		}
	}
	for p := range somePictures(4, 100, 6, 10) {
		checkLeast(t, p)
	}
	for p := range builtPictures(5) {
		checkLeast(t, p)
	}
	for _, x := range []struct {
		n     int
		edges [][2]int
		want  int
	}{
		{1, nil, 1}, {10, nil, 1}, {2, path(2), 1}, {3, path(3), 1}, {3, complete(3), 2}, {10, complete(10), 9}, {4, star(4), 2}, {10, star(10), 2}, {4, pairs(2), 2}, {10, pairs(5), 5}, {6, crossed(2, 4), 2}, {7, crossed(2, 5), 3},
	} {
		if b, e := ferry.Least(x.n, x.edges); b != x.want || e != api.OK {
			t.Errorf("Least of %d, %v: %d, %d", x.n, x.edges, b, e)
		}
	}
}

// The chapter's examples.
func TestExamples(t *testing.T) {
	wolf := path(3)
	set, e := ferry.Cover(3, wolf)
	least, f := ferry.Least(3, wolf)
	plan, ok, g := ferry.Plan(3, wolf, 1)
	isOne := slices.Equal(plan, []int{2, 0, 1, 2, 4, 0, 2}) || slices.Equal(plan, []int{2, 0, 4, 2, 1, 0, 2})
	if set != 2 || least != 1 || !ok || !isOne || e != api.OK || f != api.OK || g != api.OK {
		t.Errorf("wolf, goat and cabbage: %d, %d, %v, %t, %d, %d, %d", set, least, plan, ok, e, f, g)
	}
	least, e = ferry.Least(3, nil)
	plan, ok, f = ferry.Plan(3, nil, 2)
	if least != 1 || len(plan) != 3 || !ok || e != api.OK || f != api.OK {
		t.Errorf("without edges: %d, %v, %t, %d, %d", least, plan, ok, e, f)
	}
	set, e = ferry.Cover(3, complete(3))
	least, f = ferry.Least(3, complete(3))
	if set != 3 || least != 2 || e != api.OK || f != api.OK {
		t.Errorf("all three pairs: %d, %d, %d, %d", set, least, e, f)
	}
}

// P8.4, W6: the least number of seats is that of the fewest passengers of a cover, or one more.
func TestSeatsAndCovers(t *testing.T) {
	check := func(p picture) {
		least, e := ferry.Least(p.n, p.edges())
		if size := len(members(p.cover())); least < size || least > size+1 || e != api.OK {
			t.Errorf("Least of %d, %v: %d, %d, but the cover has %d", p.n, p.edges(), least, e, size)
		}
	}
	for n := 1; n <= 5; n++ {
		for p := range allPictures(n) {
			check(p)
		}
	}
	for p := range somePictures(6, 500, 6, 10) {
		check(p)
	}
	for p := range builtPictures(7) {
		check(p)
	}
}

// R4, R7: arguments stay as they are, what lies beyond them counts for nothing, and results are new and the same each time.
func TestMemory(t *testing.T) {
	long := complete(6)
	edges := long[:3]
	kept := slices.Clone(long)
	plan := []int{63, 99, -1}
	for range 2 {
		first, ok, e := ferry.Plan(6, edges, 3)
		second, again, f := ferry.Plan(6, slices.Clone(edges), 3)
		if !slices.Equal(first, second) || !ok || !again || e != api.OK || f != api.OK {
			t.Errorf("Plan: %v, %t, %d, and then %v, %t, %d", first, ok, e, second, again, f)
		}
		clear(first)
		clear(first[:cap(first)])
		if !ferry.IsPlan(6, edges, 3, second) || !ferry.IsPlan(6, edges, 6, plan[:1]) {
			t.Errorf("IsPlan of %v and %v", second, plan[:1])
		}
		x, ok, e := ferry.Structure(6, edges, 3)
		y, again, f := ferry.Structure(6, slices.Clone(edges), 3)
		if x != y || !ok || !again || e != api.OK || f != api.OK {
			t.Errorf("Structure: %v, %t, %d, and then %v, %t, %d", x, ok, e, y, again, f)
		}
	}
	if !slices.Equal(long, kept) || !slices.Equal(plan, []int{63, 99, -1}) {
		t.Errorf("the arguments are now %v, %v", long, plan)
	}
}
