package shift_test

import (
	"math"
	"math/rand"
	"slices"
	"testing"

	"forcola/api"
	"forcola/shift"
)

// withOrder are all calls that take an order and return an error; they report whether all but the error is zero.
var withOrder = map[string]func(p table) (bool, api.Errno){
	"Check":     func(p table) (bool, api.Errno) { return true, shift.Check(p) },
	"Magnitude": func(p table) (bool, api.Errno) { m, e := shift.Magnitude(p); return m == 0, e },
	"Intervals": func(p table) (bool, api.Errno) { l, e := shift.Intervals(p); return len(l) == 0, e },
	"TwoTwo":    func(p table) (bool, api.Errno) { x, ok, e := shift.TwoTwo(p); return x == [4]int{} && !ok, e },
	"Positions": func(p table) (bool, api.Errno) {
		l, w, e := shift.Positions(p)
		return len(l) == 0 && w == 0, e
	},
	"ThreeOne": func(p table) (bool, api.Errno) { x, ok, e := shift.ThreeOne(p); return x == [4]int{} && !ok, e },
	"Levels":   func(p table) (bool, api.Errno) { l, e := shift.Levels(p); return len(l) == 0, e },
}

// checkNone compares all calls that take an order to what P10.1 says of a table that is none.
func checkNone(t *testing.T, p table) {
	for name, call := range withOrder {
		if zero, e := call(p); !zero || e != api.ErrOrder {
			t.Errorf("%s of %v: %d, zero values %t", name, p, e, zero)
		}
	}
	for _, x := range [][4]int{{}, {0, 1, 2, 3}, {0, 1, 0, 1}, {-1, -1, -1, -1}} {
		if shift.IsTwoTwo(p, x) || shift.IsThreeOne(p, x) {
			t.Errorf("four %v are something in %v", x, p)
		}
	}
	for _, positions := range [][]int{nil, make([]int, len(p)), numbers(len(p))} {
		if shift.Represents(p, positions, 0) || shift.Represents(p, positions, 2) {
			t.Errorf("%v represent %v", positions, p)
		}
	}
}

// P10.1: what is no table of 1 to 12 rows, as long as there are rows, is no order.
func TestNoTable(t *testing.T) {
	long := empty(3)
	long[1] = make([]bool, 4)
	short := empty(12)
	short[11] = make([]bool, 11)
	wide, high := table{{false, false}}, table{{false}, {false}}
	for _, p := range []table{nil, {}, {nil}, {nil, nil}, {{}, {}}, {{false, false}, nil}, {nil, {false, false}}, long, short, wide, high, empty(13), chain(13), empty(12)[:11], empty(40), empty(64), empty(65), make(table, 1<<20)} {
		checkNone(t, p)
	}
}

// P10.1: all tables of at most four elements.
func TestAllTables(t *testing.T) {
	for n := 1; n <= 4; n++ {
		for p := range tables(n) {
			if isOrder(p) {
				checkOrder(t, p)
			} else {
				checkNone(t, p)
			}
		}
	}
}

// P10.1: orders of up to twelve elements with one pair changed.
func TestNearlyOrders(t *testing.T) {
	r := rand.New(rand.NewSource(1))
	for range 60 {
		n := 5 + r.Intn(8)
		p := randomOne(r, n)
		for range 20 {
			x, y := r.Intn(n), r.Intn(n)
			p[x][y] = !p[x][y]
			if isOrder(p) {
				checkOrder(t, p)
			} else {
				checkNone(t, p)
			}
			p[x][y] = !p[x][y]
		}
	}
	for n := 1; n <= 12; n++ {
		for x := range n {
			p := chain(n)
			p[x][x] = true
			checkNone(t, p)
			q := chain(n)
			q[n-1][x] = true
			checkNone(t, q)
		}
	}
}

// The chapter's examples.
func TestExamples(t *testing.T) {
	two := order(4, [2]int{0, 1}, [2]int{2, 3})
	if x, ok, e := shift.TwoTwo(two); !ok || e != api.OK || !shift.IsTwoTwo(two, x) || !shift.IsTwoTwo(two, [4]int{0, 1, 2, 3}) {
		t.Errorf("TwoTwo: %v, %t, %d", x, ok, e)
	}
	if l, e := shift.Intervals(two); len(l) != 0 || e != api.ErrNone {
		t.Errorf("Intervals of a two and two: %v, %d", l, e)
	}
	three := order(4, [2]int{0, 1}, [2]int{1, 2})
	if x, ok, e := shift.ThreeOne(three); !ok || x != [4]int{0, 1, 2, 3} || e != api.OK || !shift.IsThreeOne(three, x) {
		t.Errorf("ThreeOne: %v, %t, %d", x, ok, e)
	}
	if l, e := shift.Intervals(three); !slices.Equal(l, [][2]int{{0, 0}, {1, 1}, {2, 2}, {0, 2}}) || e != api.OK {
		t.Errorf("Intervals of a three and one: %v, %d", l, e)
	}
	if m, e := shift.Magnitude(three); m != 3 || e != api.OK {
		t.Errorf("Magnitude of a three and one: %d, %d", m, e)
	}
	if l, w, e := shift.Positions(three); len(l) != 0 || w != 0 || e != api.ErrNone {
		t.Errorf("Positions of a three and one: %v, %d, %d", l, w, e)
	}
	if l, e := shift.Levels(chain(3)); !slices.Equal(l, []int{0, 1, 2}) || e != api.OK {
		t.Errorf("Levels: %v, %d", l, e)
	}
	if l, peak, e := shift.Boats([][2]int{{0, 2}, {1, 3}, {3, 4}}); len(l) != 3 || l[0] == l[1] || l[1] == l[2] || l[0] != l[2] || peak != 1 || e != api.OK {
		t.Errorf("Boats: %v, %d, %d", l, peak, e)
	}
	if !shift.IsAscent([]int{0, 1, 0, 2}) || shift.IsAscent([]int{0, 2}) {
		t.Error("IsAscent")
	}
}

// checkOrder compares all that is said of an order to the definitions.
func checkOrder(t *testing.T, p table) {
	t.Helper()
	if e := shift.Check(p); e != api.OK {
		t.Errorf("Check of %v: %d", p, e)
	}
	if m, e := shift.Magnitude(p); m != len(setsBefore(p)) || e != api.OK {
		t.Errorf("Magnitude of %v: %d, %d", p, m, e)
	}
	two, three := hasTwoTwo(p), hasThreeOne(p)
	checkWitnesses(t, p, two, three)
	checkIntervals(t, p, two)
	checkPositions(t, p, two || three)
	checkLevels(t, p)
}

// R4, R7: results are new, share nothing, and are the same each time.
func TestResultsAreNew(t *testing.T) {
	p := represented([][2]int{{0, 1}, {1, 2}, {2, 4}, {0, 0}, {3, 3}})
	l := [][2]int{{0, 1}, {1, 2}, {2, 4}, {0, 0}, {3, 3}}
	checkNew(t, "FromIntervals", func() [][]bool { x, _ := shift.FromIntervals(l); return x }, true)
	checkNew(t, "Intervals", func() [][][2]int { x, _ := shift.Intervals(p); return [][][2]int{x} }, [2]int{9, 9})
	checkNew(t, "Positions", func() [][]int { x, _, _ := shift.Positions(chain(5)); return [][]int{x} }, 99)
	checkNew(t, "Levels", func() [][]int { x, _ := shift.Levels(chain(5)); return [][]int{x} }, 99)
	checkNew(t, "Boats", func() [][]int { x, _, _ := shift.Boats(l); return [][]int{x} }, 99)
	if !same(p, represented(l)) || !slices.Equal(l, [][2]int{{0, 1}, {1, 2}, {2, 4}, {0, 0}, {3, 3}}) {
		t.Errorf("the arguments are now %v, %v", p, l)
	}
}

// checkNew makes each list of a result longer and overwrites it; neither the other lists nor a second result may notice.
func checkNew[T comparable](t *testing.T, name string, call func() [][]T, other T) {
	x, want := call(), call()
	if len(want) == 0 || len(want[0]) == 0 || !slices.EqualFunc(x, want, slices.Equal[[]T]) {
		t.Errorf("%s: %v, then %v", name, x, want)
		return
	}
	for i := range x {
		for j := range append(x[i], other) {
			x[i] = append(x[i][:j], other)
		}
		if i+1 < len(x) && !slices.Equal(x[i+1], want[i+1]) {
			t.Errorf("%s: list %d shares memory with the one before", name, i+1)
		}
	}
	if y := call(); !slices.EqualFunc(y, want, slices.Equal[[]T]) {
		t.Errorf("%s: the result was kept: %v, not %v", name, y, want)
	}
}

// R4: arguments stay as they are, and what lies beyond them counts for nothing.
func TestArguments(t *testing.T) {
	whole := chain(6)
	for x := range whole {
		whole[x][5], whole[5][x] = true, true
	}
	p := whole[:5]
	for x := range p {
		p[x] = p[x][:5]
	}
	kept := cloned(whole)
	for name, call := range withOrder {
		if _, e := call(p); e != api.OK || !same(whole, kept) {
			t.Errorf("%s: %d, and the order is now %v", name, e, whole)
		}
	}
	positions := []int{0, 1, 2, 3, 4, 9}
	if !shift.Represents(p, positions[:5], 0) || positions[5] != 9 {
		t.Errorf("the positions are now %v", positions)
	}
	l := [][2]int{{4, 5}, {0, 1}, {1, 4}, {5, 0}}
	q, e := shift.FromIntervals(l[:3])
	boats, peak, f := shift.Boats(l[:3])
	if len(q) != 3 || len(boats) != 3 || peak != 1 || e != api.OK || f != api.OK || !slices.Equal(l, [][2]int{{4, 5}, {0, 1}, {1, 4}, {5, 0}}) {
		t.Errorf("%v, %d; %v, %d, %d; the intervals are now %v", q, e, boats, peak, f, l)
	}
	list := []int{0, 1, 2, 7}
	if !shift.IsAscent(list[:3]) || !slices.Equal(list, []int{0, 1, 2, 7}) {
		t.Errorf("the list is now %v", list)
	}
}

// wrongNumbers are no numbers of elements, of n.
func wrongNumbers(n int) []int {
	return []int{-1, n, n + 1, 16, 63, 64, 65, -64, 1 << 32, -1 << 32, math.MaxInt, math.MinInt}
}
