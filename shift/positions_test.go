package shift_test

import (
	"math"
	"math/rand"
	"slices"
	"testing"

	"forcola/api"
	"forcola/shift"
)

// checkPositions compares the positions to the definition, and to P10.7.
func checkPositions(t *testing.T, p table, none bool) {
	t.Helper()
	l, w, e := shift.Positions(p)
	if none {
		if e != api.ErrNone || len(l) != 0 || w != 0 {
			t.Errorf("Positions of %v: %v, %d, %d", p, l, w, e)
		}
		return
	}
	if e != api.OK || !represents(p, l, w) || !shift.Represents(p, l, w) {
		t.Errorf("Positions of %v: %v, %d, %d", p, l, w, e)
		return
	}
	if slices.Min(l) < -1000 || slices.Max(l) > 1000 || w > 1000 {
		t.Errorf("Positions of %v: %v, %d are not in range", p, l, w)
	}
}

// checkLevels compares the levels to the definition, and to P10.7.
func checkLevels(t *testing.T, p table) {
	t.Helper()
	l, e := shift.Levels(p)
	if !hasLevels(p) {
		if e != api.ErrNone || len(l) != 0 {
			t.Errorf("Levels of %v: %v, %d", p, l, e)
		}
		return
	}
	if e != api.OK || !slices.Equal(l, levels(p)) || !represents(p, l, 0) || !shift.Represents(p, l, 0) {
		t.Errorf("Levels of %v: %v, %d", p, l, e)
		return
	}
	for level := range slices.Max(l) {
		if !slices.Contains(l, level) {
			t.Errorf("Levels of %v: %v without %d", p, l, level)
		}
	}
}

// P10.3, P10.7: all positions of at most four elements; what they represent has positions, and with the width 0 it has levels.
func TestAllPositions(t *testing.T) {
	for n := 1; n <= 4; n++ {
		for width := range 4 {
			eachChoice(n, 2*n+2, func(l []int) {
				p := empty(n)
				for x := range n {
					for y := range n {
						p[x][y] = l[y] > l[x]+width
					}
				}
				if !shift.Represents(p, l, width) {
					t.Errorf("Represents of %v, %v, %d", p, l, width)
				}
				if _, _, e := shift.Positions(p); e != api.OK {
					t.Errorf("Positions of %v: %d", p, e)
				}
				if _, e := shift.Levels(p); width == 0 && e != api.OK {
					t.Errorf("Levels of %v: %d", p, e)
				}
			})
		}
	}
}

// P10.3: Represents of all positions and widths near those of an order, and of numbers of positions that are not right.
func TestRepresents(t *testing.T) {
	r := rand.New(rand.NewSource(6))
	yes, no := 0, 0
	for range 400 {
		p := randomPositions(r, 1+r.Intn(12), 1+r.Intn(20), r.Intn(6))
		l, w, e := shift.Positions(p)
		if e != api.OK {
			t.Errorf("Positions of %v: %d", p, e)
			continue
		}
		for range 30 {
			q, v := slices.Clone(l), w+r.Intn(3)-1
			q[r.Intn(len(q))] += r.Intn(5) - 2
			is := shift.Represents(p, q, v)
			if is != represents(p, q, v) {
				t.Errorf("Represents of %v, %v, %d: %t", p, q, v, is)
			}
			if is {
				yes++
			} else {
				no++
			}
		}
		if shift.Represents(p, l[1:], w) || shift.Represents(p, append(slices.Clone(l), 0), w) || shift.Represents(p, nil, w) {
			t.Errorf("Represents of %v with too few or too many positions", p)
		}
	}
	if yes < 1000 || no < 1000 {
		t.Errorf("%d are, %d are not", yes, no)
	}
}

// P10.3: a width below 0 represents nothing, though the positions would fit.
func TestWidthBelow(t *testing.T) {
	for _, width := range []int{-1, -2, math.MinInt, -math.MaxInt} {
		for _, p := range []table{chain(2), empty(1), empty(2), chain(12)} {
			if shift.Represents(p, numbers(len(p)), width) || shift.Represents(p, make([]int, len(p)), width) {
				t.Errorf("Represents of %v with the width %d", p, width)
			}
		}
	}
	if !shift.Represents(empty(1), []int{5}, 0) || !shift.Represents(chain(2), []int{-1, 0}, 0) || shift.Represents(chain(2), []int{0, 0}, 0) {
		t.Error("Represents with the width 0")
	}
}

// P10.3: sums that are out of the range of int are exact.
func TestGreatPositions(t *testing.T) {
	great := []int{math.MinInt, math.MinInt + 1, math.MinInt / 2, -2, -1, 0, 1, 2, math.MaxInt / 2, math.MaxInt/2 + 1, math.MaxInt - 1, math.MaxInt}
	tables := []table{chain(2), empty(2), order(2, [2]int{1, 0})}
	yes := 0
	for _, a := range great {
		for _, b := range great {
			for _, width := range great {
				for _, p := range tables {
					l := []int{a, b}
					is := shift.Represents(p, l, width)
					if is != represents(p, l, width) {
						t.Errorf("Represents of %v, %v, %d: %t", p, l, width, is)
					}
					if is {
						yes++
					}
				}
			}
		}
	}
	// Just one of the three orders is represented, if the width is at least 0.
	if yes != 12*12*7 {
		t.Errorf("%d are", yes)
	}
}

// P10.3: orders of twelve elements whose positions lie far apart.
func TestFarPositions(t *testing.T) {
	for width := range 12 {
		for step := 1; step <= 12; step++ {
			p := empty(12)
			for x := range 12 {
				for y := range 12 {
					p[x][y] = y*step > x*step+width
				}
			}
			checkOrder(t, p)
		}
	}
	for width := 1; width <= 6; width++ {
		for code := range 1 << 11 {
			l := make([]int, 12)
			for x := 1; x < 12; x++ {
				l[x] = l[x-1] + 1 + (width-1)*(code>>(x-1)&1)
			}
			p := empty(12)
			for x := range l {
				for y := range l {
					p[x][y] = l[y] > l[x]+width
				}
			}
			checkPositions(t, p, false)
		}
	}
}
