package shift_test

import (
	"math"
	"math/rand"
	"slices"
	"testing"

	"forcola/api"
	"forcola/shift"
)

// checkWitnesses compares the four elements that are found to the definitions.
func checkWitnesses(t *testing.T, p table, two, three bool) {
	t.Helper()
	x, ok, e := shift.TwoTwo(p)
	if e != api.OK || ok != two || ok && !isTwoTwo(p, x) || !ok && x != [4]int{} {
		t.Errorf("TwoTwo of %v: %v, %t, %d", p, x, ok, e)
	}
	if ok && !shift.IsTwoTwo(p, x) {
		t.Errorf("%v: %v is no two and two", p, x)
	}
	x, ok, e = shift.ThreeOne(p)
	if e != api.OK || ok != three || ok && !isThreeOne(p, x) || !ok && x != [4]int{} {
		t.Errorf("ThreeOne of %v: %v, %t, %d", p, x, ok, e)
	}
	if ok && !shift.IsThreeOne(p, x) {
		t.Errorf("%v: %v is no three and one", p, x)
	}
}

// checkIntervals compares the canonical intervals to the definition, and to P10.6.
func checkIntervals(t *testing.T, p table, two bool) {
	t.Helper()
	l, e := shift.Intervals(p)
	if two {
		if e != api.ErrNone || len(l) != 0 {
			t.Errorf("Intervals of %v: %v, %d", p, l, e)
		}
		return
	}
	if e != api.OK || !slices.Equal(l, canonical(p)) || !same(represented(l), p) {
		t.Errorf("Intervals of %v: %v, %d", p, l, e)
		return
	}
	if m, _ := shift.Magnitude(p); len(ends(l)) != m {
		t.Errorf("Intervals of %v: %v, magnitude %d", p, l, m)
	}
	if q, e := shift.FromIntervals(l); e != api.OK || !same(p, q) {
		t.Errorf("FromIntervals of %v: %v, %d", l, q, e)
	}
}

// P10.1 to P10.3, P10.6, P10.7: all orders of five elements; those of fewer are among all tables.
func TestAllOrders(t *testing.T) {
	count := 0
	for p := range orders(5) {
		checkOrder(t, p)
		count++
	}
	if count != 4231 {
		t.Errorf("%d orders", count)
	}
}

// P10.1 to P10.3, P10.6, P10.7: orders of up to twelve elements, with and without intervals, positions and levels.
func TestRandomOrders(t *testing.T) {
	r := rand.New(rand.NewSource(2))
	var count [8]int
	for range 2500 {
		p := randomOne(r, 1+r.Intn(12))
		checkOrder(t, p)
		kind := 0
		if hasTwoTwo(p) {
			kind++
		}
		if hasThreeOne(p) {
			kind += 2
		}
		if hasLevels(p) {
			kind += 4
		}
		count[kind]++
	}
	for _, kind := range []int{0, 1, 2, 3, 4} {
		if count[kind] < 50 {
			t.Errorf("kinds of orders: %v", count)
		}
	}
}

// P10.2, P10.3: a single two and two, or three and one, among twelve elements.
func TestSingleWitness(t *testing.T) {
	r := rand.New(rand.NewSource(3))
	for _, block := range []table{beside(chain(2), chain(2)), beside(chain(3), empty(1))} {
		for below := range 9 {
			for range 12 {
				p := shuffled(r, after(after(chain(below), block), chain(8-below)))
				checkOrder(t, p)
				p = shuffled(r, after(after(empty(below), block), empty(8-below)))
				checkOrder(t, p)
			}
		}
	}
}

// P10.1: the limits of elements, and those orders that are easily told.
func TestGreatOrders(t *testing.T) {
	for n := 1; n <= 12; n++ {
		for _, p := range []table{chain(n), empty(n)} {
			checkOrder(t, p)
		}
		if m, e := shift.Magnitude(chain(n)); m != n || e != api.OK {
			t.Errorf("Magnitude of a chain of %d: %d, %d", n, m, e)
		}
		if m, e := shift.Magnitude(empty(n)); m != 1 || e != api.OK {
			t.Errorf("Magnitude of %d elements apart: %d, %d", n, m, e)
		}
	}
	// Six elements before six others, but each not before one of them: six sets of five, and the empty one.
	p := empty(12)
	for x := range 6 {
		for y := range 6 {
			p[x][6+y] = x != y
		}
	}
	checkOrder(t, p)
	if m, e := shift.Magnitude(p); m != 7 || e != api.OK {
		t.Errorf("Magnitude of %v: %d, %d", p, m, e)
	}
}

// P10.2, P10.3: IsTwoTwo and IsThreeOne of all four numbers, also of such as are no elements.
func TestAllFours(t *testing.T) {
	r := rand.New(rand.NewSource(4))
	list := []table{beside(chain(2), chain(2)), beside(chain(3), empty(1)), chain(4), empty(4), beside(chain(3), chain(3)), empty(1), chain(2)}
	for range 40 {
		list = append(list, randomOne(r, 1+r.Intn(12)))
	}
	for _, p := range list {
		n := len(p) + 2
		for code := range n * n * n * n {
			x := [4]int{code%n - 1, code/n%n - 1, code/n/n%n - 1, code/n/n/n - 1}
			if shift.IsTwoTwo(p, x) != isTwoTwo(p, x) {
				t.Errorf("IsTwoTwo of %v, %v", p, x)
			}
			if shift.IsThreeOne(p, x) != isThreeOne(p, x) {
				t.Errorf("IsThreeOne of %v, %v", p, x)
			}
		}
	}
}

// P10.2, P10.3: four of which one is no element.
func TestWrongFours(t *testing.T) {
	two, three := after(chain(8), beside(chain(2), chain(2))), after(beside(chain(3), empty(1)), chain(8))
	if !shift.IsTwoTwo(two, [4]int{8, 9, 10, 11}) || !shift.IsThreeOne(three, [4]int{0, 1, 2, 3}) {
		t.Error("the four are not found")
	}
	for i := range 4 {
		for _, wrong := range wrongNumbers(12) {
			x, y := [4]int{8, 9, 10, 11}, [4]int{0, 1, 2, 3}
			x[i], y[i] = wrong, wrong
			if shift.IsTwoTwo(two, x) || shift.IsThreeOne(three, y) {
				t.Errorf("%v or %v is something", x, y)
			}
		}
	}
}

// P10.1: FromIntervals of random intervals, and of ends at the limits of int.
func TestFromIntervals(t *testing.T) {
	r := rand.New(rand.NewSource(5))
	for range 2000 {
		l := randomIntervals(r, 1+r.Intn(12), 1+r.Intn(20))
		if p, e := shift.FromIntervals(l); e != api.OK || !same(p, represented(l)) {
			t.Errorf("FromIntervals of %v: %v, %d", l, p, e)
		}
	}
	great := [][2]int{{math.MinInt, math.MinInt}, {math.MinInt, math.MaxInt}, {math.MaxInt, math.MaxInt}, {-1, 0}, {0, 0}, {1, math.MaxInt}, {math.MinInt, -1}, {math.MinInt + 1, math.MaxInt - 1}}
	p, e := shift.FromIntervals(great)
	if e != api.OK || !same(p, represented(great)) {
		t.Errorf("FromIntervals of %v: %v, %d", great, p, e)
	}
	if p, e := shift.FromIntervals([][2]int{{5, 5}}); e != api.OK || !same(p, empty(1)) {
		t.Errorf("FromIntervals of one: %v, %d", p, e)
	}
}

// P10.1, P10.4: too many intervals come before one that is none; thirteen are too many, twelve are not.
func TestNoIntervals(t *testing.T) {
	good := make([][2]int, 12)
	many := make([][2]int, 13)
	manyWrong := make([][2]int, 13)
	manyWrong[0] = [2]int{1, 0}
	lastWrong := make([][2]int, 12)
	lastWrong[11] = [2]int{0, -1}
	for _, c := range []struct {
		l    [][2]int
		want api.Errno
	}{
		{good, api.OK}, {many, api.ErrLong}, {manyWrong, api.ErrLong}, {make([][2]int, 1<<20), api.ErrLong}, {lastWrong, api.ErrArg},
		{nil, api.ErrArg}, {[][2]int{}, api.ErrArg}, {[][2]int{{1, 0}}, api.ErrArg}, {[][2]int{{0, 0}, {3, 2}, {0, 1}}, api.ErrArg},
		{[][2]int{{math.MaxInt, math.MinInt}}, api.ErrArg}, {[][2]int{{math.MinInt, math.MaxInt}}, api.OK}, {[][2]int{{0, -1}}, api.ErrArg}, {[][2]int{{-1, -1}}, api.OK},
	} {
		if p, e := shift.FromIntervals(c.l); e != c.want || e != api.OK && len(p) != 0 {
			t.Errorf("FromIntervals of %v: %v, %d, not %d", c.l, p, e, c.want)
		}
		if b, peak, e := shift.Boats(c.l); e != c.want || e != api.OK && (len(b) != 0 || peak != 0) {
			t.Errorf("Boats of %v: %v, %d, %d, not %d", c.l, b, peak, e, c.want)
		}
	}
}

// P10.6: the magnitude is the fewest ends of intervals that represent the order, of all intervals of five elements; what none represent has a two and two.
func TestFewestEnds(t *testing.T) {
	for n := 1; n <= 5; n++ {
		fewest := map[string]int{}
		for count := 1; count <= n; count++ {
			var spans [][2]int
			for right := range count {
				for left := range right + 1 {
					spans = append(spans, [2]int{left, right})
				}
			}
			eachChoice(n, len(spans), func(choice []int) {
				l := make([][2]int, n)
				for i, c := range choice {
					l[i] = spans[c]
				}
				key := keyOf(l)
				if fewest[key] == 0 {
					fewest[key] = count
				}
			})
		}
		for p := range orders(n) {
			l, e := shift.Intervals(p)
			m, _ := shift.Magnitude(p)
			if e == api.OK && fewest[keyOf(l)] != m || e != api.OK && fewest[keyOfOrder(p)] != 0 {
				t.Errorf("%v: intervals %v, %d, magnitude %d", p, l, e, m)
			}
		}
	}
}

// eachChoice calls f with all lists of n numbers below most.
func eachChoice(n, most int, f func([]int)) {
	choice := make([]int, n)
	for {
		f(choice)
		i := 0
		for i < n && choice[i] == most-1 {
			choice[i] = 0
			i++
		}
		if i == n {
			return
		}
		choice[i]++
	}
}

// keyOf is a key of the order that the intervals represent, and keyOfOrder that of an order.
func keyOf(l [][2]int) string {
	var key [25]byte
	for x := range l {
		for y := range l {
			if l[x][1] < l[y][0] {
				key[x*len(l)+y] = 1
			}
		}
	}
	return string(key[:])
}

func keyOfOrder(p table) string {
	var key [25]byte
	for x := range p {
		for y := range p {
			if p[x][y] {
				key[x*len(p)+y] = 1
			}
		}
	}
	return string(key[:])
}
