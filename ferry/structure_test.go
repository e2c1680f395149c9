package ferry_test

import (
	"math"
	"math/rand"
	"testing"

	"forcola/api"
	"forcola/ferry"
)

// checkStructures compares Structure to the fewest seats for which there is one.
func checkStructures(t *testing.T, p picture, fewest int) {
	for seats := 1; seats <= 10; seats++ {
		s, ok, e := ferry.Structure(p.n, p.edges(), seats)
		if ok != (seats >= fewest) || e != api.OK {
			t.Errorf("Structure of %d, %v, %d: %v, %t, %d, but the fewest seats are %d", p.n, p.edges(), seats, s, ok, e, fewest)
		}
		if ok && !p.isStructure(seats, s) || !ok && s != [5]int{} {
			t.Errorf("Structure of %d, %v, %d: %v, %t", p.n, p.edges(), seats, s, ok)
		}
		if ok != ferry.IsStructure(p.n, p.edges(), seats, s) {
			t.Errorf("IsStructure of %d, %v, %d, %v: not %t", p.n, p.edges(), seats, s, ok)
		}
	}
}

// P8.3: there is a structure where a search through all five sets finds one.
func TestStructure(t *testing.T) {
	for n := 1; n <= 4; n++ {
		for p := range allPictures(n) {
			checkStructures(t, p, p.fewestSeats())
		}
	}
	for p := range somePictures(21, 100, 5, 5) {
		checkStructures(t, p, p.fewestSeats())
	}
	for p := range somePictures(22, 10, 6, 6) {
		checkStructures(t, p, p.fewestSeats())
	}
}

// P8.3: the structures of some passengers.
func TestSomeStructures(t *testing.T) {
	for _, x := range []struct {
		n      int
		edges  [][2]int
		fewest int
	}{
		{1, nil, 1}, {10, nil, 1}, {3, path(3), 1}, {3, complete(3), 2}, {10, complete(10), 9}, {4, star(4), 2}, {10, star(10), 2}, {4, pairs(2), 2}, {10, pairs(5), 5}, {6, crossed(2, 4), 2}, {7, crossed(2, 5), 3},
	} {
		checkStructures(t, draw(x.n, x.edges), x.fewest)
	}
}

// P8.3: numbers of seats that are not in range.
func TestStructureErrors(t *testing.T) {
	for _, seats := range []int{0, -1, 11, -11, 16, 1 << 32, 1<<32 + 1, math.MaxInt, math.MinInt} {
		for n := 1; n <= 10; n += 3 {
			s, ok, e := ferry.Structure(n, path(n), seats)
			if s != [5]int{} || ok || e != api.ErrArg {
				t.Errorf("Structure of %d, %d: %v, %t, %d", n, seats, s, ok, e)
			}
		}
	}
}

// checkIsStructure compares IsStructure to its definition.
func checkIsStructure(t *testing.T, p picture, seats int, s [5]int) {
	if ok := ferry.IsStructure(p.n, p.edges(), seats, s); ok != p.isStructure(seats, s) {
		t.Errorf("IsStructure of %d, %v, %d, %v: %t", p.n, p.edges(), seats, s, ok)
	}
}

// P8.3: all five sets, and numbers just out of range, too.
func TestIsStructureOfAllSets(t *testing.T) {
	for n := 1; n <= 3; n++ {
		least, most := -1, 1<<n
		if n == 3 {
			least, most = 0, 1<<n-1
		}
		for p := range allPictures(n) {
			for l := range lists(5, least, most) {
				for seats := range n + 2 {
					checkIsStructure(t, p, seats, [5]int(l))
				}
			}
		}
	}
}

// P8.3: structures in some of which one thing is wrong.
func TestIsStructure(t *testing.T) {
	two := [][2]int{{0, 4}, {1, 5}, {2, 4}, {2, 5}, {3, 4}, {3, 5}} // 4 and 5 have an edge to 2 and 3 both, and to one more each
	for _, x := range []struct {
		n     int
		edges [][2]int
		seats int
		s     [5]int
		want  bool
	}{
		{3, path(3), 1, [5]int{0, 0, 5, 2, 2}, true},
		{3, path(3), math.MaxInt, [5]int{0, 0, 5, 2, 2}, true},
		{3, path(3), 0, [5]int{0, 0, 5, 2, 2}, false},           // no seats
		{3, path(3), -1, [5]int{0, 0, 5, 2, 2}, false},          // fewer
		{3, path(3), math.MinInt, [5]int{0, 0, 5, 2, 2}, false}, // fewer
		{3, path(3), 1, [5]int{0, 0, 5, 2, 0}, false},           // Y2 is empty
		{3, path(3), 1, [5]int{0, 0, 5, 0, 2}, false},           // Y1 is empty
		{3, path(3), 1, [5]int{1, 0, 4, 2, 2}, false},           // X1 and Y1 are not quiet
		{3, path(3), 1, [5]int{0, 4, 1, 2, 2}, false},           // X2 and Y2 are not quiet
		{3, path(3), 1, [5]int{0, 0, 1, 2, 2}, false},           // Y has two
		{3, path(3), 2, [5]int{0, 0, 1, 2, 2}, true},            //
		{3, path(3), 2, [5]int{0, 0, 1, 6, 2}, false},           // Y1 is not quiet
		{3, path(3), 2, [5]int{0, 0, 1, 2, 6}, false},           // Y2 is not quiet
		{3, path(3), 2, [5]int{0, 0, 1, 4, 2}, true},            //
		{3, path(3), 2, [5]int{0, 0, 1, 1, 2}, false},           // Y1 is not within Y
		{3, path(3), 2, [5]int{0, 0, 1, 4, 5}, false},           // Y2 is not within Y
		{3, path(3), 2, [5]int{0, 0, 3, 4, 4}, false},           // X is not quiet
		{3, path(3), 3, [5]int{0, 0, 0, 1, 1}, true},            // X is empty
		{3, path(3), 2, [5]int{0, 0, 0, 1, 1}, false},           // and Y has three
		{4, star(4), 1, [5]int{0, 0, 14, 1, 1}, false},          // X3 has three
		{4, star(4), 2, [5]int{0, 0, 14, 1, 1}, false},          // X3 has three
		{4, star(4), 2, [5]int{0, 0, 6, 8, 8}, true},            //
		{6, two, 2, [5]int{2, 1, 12, 16, 32}, true},
		{6, two, 2, [5]int{1, 2, 12, 16, 32}, false},        // X1 and X2 are exchanged
		{6, two, 2, [5]int{2, 1, 12, 32, 16}, false},        // Y1 and Y2 are exchanged
		{6, two, 2, [5]int{1, 2, 12, 32, 16}, true},         // both are
		{6, two, 2, [5]int{3, 0, 12, 16, 32}, false},        // X1 and Y1 are not quiet
		{6, two, 2, [5]int{2, 0, 13, 16, 32}, false},        // X3 has one more than Y1 and Y2
		{6, two, 2, [5]int{2, 0, 13, 16, 48}, true},         // Y2 has one more, too
		{6, two, 2, [5]int{2, 3, 12, 16, 32}, false},        // X1 and X2 have one in common
		{6, two, 2, [5]int{2, 1, 13, 16, 32}, false},        // X2 and X3 have one in common
		{6, two, 2, [5]int{2, 1, 14, 16, 32}, false},        // X1 and X3 have one in common
		{6, two, 2, [5]int{2 | 1<<6, 1, 12, 16, 32}, false}, // a passenger that there is not
		{6, two, 2, [5]int{2, 1 | 1<<32, 12, 16, 32}, false},
		{6, two, 9, [5]int{2, 1, 12 | 1<<10, 16, 32}, false},
		{6, two, 9, [5]int{2, 1, 12, 16 | 1<<6, 32}, false},
		{6, two, 9, [5]int{2, 1, 12, 16, 32 | 1<<62}, false},
		{6, two, 9, [5]int{math.MinInt, 1, 12, 16, 32}, false}, // no sets
		{6, two, 9, [5]int{2, -1, 12, 16, 32}, false},
		{6, two, 9, [5]int{2, 1, 12, math.MinInt + 16, 32}, false},
		{6, two, 9, [5]int{-1, -1, -1, -1, -1}, false},
		{1, nil, 1, [5]int{0, 0, 0, 1, 1}, true},
		{1, nil, 1, [5]int{1, 0, 0, 1, 1}, false},
		{10, nil, 1, [5]int{1023 - 512, 0, 0, 512, 512}, true},
		{10, nil, 1, [5]int{1 + 8, 2 + 16, 1023 - 512 - 27, 512, 512}, false},
		{10, nil, 1, [5]int{256 + 9, 1023 - 512 - 256 - 9 - 6, 6, 512, 512}, true},
		{10, nil, 9, [5]int{0, 0, 1023 - 512, 512, 512}, false},
		{10, complete(10), 9, [5]int{0, 0, 512, 1, 256}, true},
	} {
		if ok := ferry.IsStructure(x.n, x.edges, x.seats, x.s); ok != x.want {
			t.Errorf("IsStructure of %d, %v, %d, %v: %t", x.n, x.edges, x.seats, x.s, ok)
		}
	}
}

// P8.3: structures, and sets that are nearly structures.
func TestIsStructureOfChangedStructures(t *testing.T) {
	r := rand.New(rand.NewSource(23))
	for p := range somePictures(24, 500, 3, 10) {
		least, _ := ferry.Least(p.n, p.edges())
		s, _, _ := ferry.Structure(p.n, p.edges(), least)
		for range 100 {
			changed := s
			i, j := r.Intn(5), r.Intn(5)
			v := r.Intn(p.n)
			switch r.Intn(4) {
			case 0:
				changed[i] ^= 1 << v
			case 1:
				changed[i] ^= 1 << v
				changed[j] ^= 1 << v
			case 2:
				changed[i], changed[j] = changed[j], changed[i]
			case 3:
				changed[i] ^= 1 << r.Intn(64)
			}
			checkIsStructure(t, p, least, changed)
			checkIsStructure(t, p, least-1, s)
			checkIsStructure(t, p, least+1, changed)
		}
	}
}

// checkBoth compares plans to structures: for each number of seats there are both or none.
func checkBoth(t *testing.T, p picture) {
	for seats := 1; seats <= 10; seats++ {
		plan, sails, e := ferry.Plan(p.n, p.edges(), seats)
		s, ok, f := ferry.Structure(p.n, p.edges(), seats)
		if sails != ok || e != api.OK || f != api.OK {
			t.Errorf("Plan of %d, %v, %d: %t, %d, but Structure: %t, %d", p.n, p.edges(), seats, sails, e, ok, f)
		}
		if sails && !p.isPlan(seats, plan) || ok && !p.isStructure(seats, s) {
			t.Errorf("Plan and Structure of %d, %v, %d: %v, %v", p.n, p.edges(), seats, plan, s)
		}
		if len(plan) > 2*p.n+1 {
			t.Errorf("Plan of %d, %v, %d: %d trips", p.n, p.edges(), seats, len(plan))
		}
	}
}

// P8.4, W1: there is a plan just if there is a structure, and a plan has at most 2 n + 1 trips.
func TestPlansAndStructures(t *testing.T) {
	for n := 1; n <= 5; n++ {
		for p := range allPictures(n) {
			checkBoth(t, p)
		}
	}
	for p := range somePictures(25, 400, 6, 10) {
		checkBoth(t, p)
	}
	for p := range builtPictures(26) {
		checkBoth(t, p)
	}
}
