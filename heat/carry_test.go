package heat_test

import (
	"math/rand"
	"testing"

	"forcola/api"
	"forcola/heat"
)

// P9.2: some tables.
func TestCarry(t *testing.T) {
	for _, x := range []struct {
		n    int
		s    rounds
		want [][]int
	}{
		{2, rounds{{{0, 1}}}, [][]int{{1, 0}, {0, 1}}},
		{2, rounds{{{1, 0}}}, [][]int{{1, 0}, {0, 1}}},
		{4, circle(4), [][]int{{0, 1, 1, 1}, {1, 0, 1, 1}, {1, 1, 0, 1}, {1, 1, 1, 0}}},
		// In the ring, who meets i meets i + 2 next; the last boat meets i + 1 after i.
		{6, circle(6), [][]int{{0, 1, 3, 0, 0, 1}, {0, 0, 1, 3, 0, 1}, {0, 0, 0, 1, 3, 1}, {3, 0, 0, 0, 1, 1}, {1, 3, 0, 0, 0, 1}, {1, 1, 1, 1, 1, 0}}},
	} {
		if c, e := heat.Carry(x.n, x.s); !same(c, x.want) || e != api.OK {
			t.Errorf("Carry of %v: %v, %d", x.s, c, e)
		}
	}
	for s := range allOfFour() {
		if c, e := heat.Carry(4, s); !same(c, carry(4, s)) || e != api.OK {
			t.Errorf("Carry of %v: %v, %d", s, c, e)
		}
	}
}

// P9.2: balanced schedules for 4, 8 and 16 alone.
func TestBalanced(t *testing.T) {
	for n := 2; n <= 16; n += 2 {
		s, e := heat.Balanced(n)
		if n != 4 && n != 8 && n != 16 {
			if len(s) != 0 || e != api.ErrNone {
				t.Errorf("Balanced of %d: %v, %d", n, s, e)
			}
			continue
		}
		c, f := heat.Carry(n, s)
		if !isSchedule(n, s) || !isBalanced(carry(n, s)) || !isBalanced(c) || e != api.OK || f != api.OK {
			t.Errorf("Balanced of %d: %v, %d; carry-over %v, %d", n, s, e, c, f)
		}
	}
}

// checkRussell checks the sums of a carry-over.
func checkRussell(t *testing.T, n int, s rounds) {
	c, e := heat.Carry(n, s)
	if len(c) != n || e != api.OK {
		t.Fatalf("Carry of %v: %v, %d", s, c, e)
	}
	squares := 0
	for i := range n {
		row, column := 0, 0
		for j := range n {
			row += c[i][j]
			column += c[j][i]
			squares += c[i][j] * c[i][j]
		}
		if row != n-1 || column != n-1 || c[i][i] != 0 {
			t.Errorf("Carry of %v: %v, row %d", s, c, i)
		}
	}
	if squares < n*(n-1) || (squares == n*(n-1)) != isBalanced(c) {
		t.Errorf("Carry of %v: %v, the sum of squares is %d", s, c, squares)
	}
}

// P9.5: the sums of rows and columns, and of the squares.
func TestRussell(t *testing.T) {
	for s := range allOfFour() {
		checkRussell(t, 4, s)
	}
	for n, s := range someSchedules(11, 60) {
		if n > 2 {
			checkRussell(t, n, s)
		}
	}
	r := rand.New(rand.NewSource(12))
	for _, n := range []int{4, 8, 16} {
		s, _ := heat.Balanced(n)
		checkRussell(t, n, s)
		for range 20 {
			checkRussell(t, n, shuffled(r, n, s))
		}
	}
}
