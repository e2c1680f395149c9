package tangle_test

import (
	"math/rand"
	"testing"

	"forcola/api"
	"forcola/tangle"
)

// checkClose compares Close to the definition, for fractions whose numbers are at most 500.
func checkClose(t *testing.T, x, y pair, turns int64) {
	t.Helper()
	want, ok := closingOf(x, y, turns)
	wantError := api.OK
	if !ok {
		wantError = api.ErrNone
	}
	if p, q, e := tangle.Close(x[0], x[1], y[0], y[1]); (pair{p, q}) != want || e != wantError {
		t.Errorf("Close of %v and %v: %d, %d, %d, not %v, %d", x, y, p, q, e, want, wantError)
	}
}

// P6.5: some closings, by hand.
func TestSomeClosings(t *testing.T) {
	for _, x := range []struct {
		x, y, want pair
		e          api.Errno
	}{
		{pair{1, 2}, pair{1, 3}, pair{5, 4}, api.OK}, {pair{1, 3}, pair{1, 2}, pair{5, 4}, api.OK}, {pair{1, 2}, pair{0, 1}, pair{1, 0}, api.OK}, {pair{3, 1}, pair{0, 1}, pair{3, 1}, api.OK}, {pair{-3, 1}, pair{0, 1}, pair{3, 2}, api.OK}, {pair{7, 4}, pair{0, 1}, pair{7, 2}, api.OK}, {pair{-5, 2}, pair{0, 1}, pair{5, 2}, api.OK}, {pair{8, 11}, pair{0, 1}, pair{8, 3}, api.OK},
		{pair{1, 0}, pair{0, 1}, pair{1, 0}, api.OK}, {pair{0, 1}, pair{1, 0}, pair{1, 0}, api.OK}, {pair{3, 2}, pair{1, 0}, pair{2, 1}, api.OK}, {pair{1, 0}, pair{1, 5}, pair{5, 4}, api.OK}, {pair{500, 499}, pair{499, 500}, pair{499_001, 999}, api.OK}, {pair{-500, 499}, pair{-499, 500}, pair{499_001, 999}, api.OK},
		{pair{0, 1}, pair{0, 1}, pair{}, api.ErrNone}, {pair{1, 0}, pair{1, 0}, pair{}, api.ErrNone}, {pair{1, 2}, pair{-1, 2}, pair{}, api.ErrNone}, {pair{-500, 499}, pair{500, 499}, pair{}, api.ErrNone},
	} {
		p, q, e := tangle.Close(x.x[0], x.x[1], x.y[0], x.y[1])
		if (pair{p, q}) != x.want || e != x.e {
			t.Errorf("Close of %v and %v: %d, %d, %d", x.x, x.y, p, q, e)
		}
		checkClose(t, x.x, x.y, 0)
	}
}

// isGreat reports whether a number is more than 500 in absolute value.
func isGreat(x pair) bool {
	return x[0] > 500 || x[0] < -500 || x[1] > 500 || x[1] < -500
}

// P6.5: numbers that are no fraction come first, then greater numbers, then closings that there are not.
func TestNoClosings(t *testing.T) {
	numbers := append([]int64{-501, -500, -2, -1, 0, 1, 2, 3, 500, 501}, extremes...)
	for _, p := range numbers {
		for _, q := range numbers {
			x := pair{p, q}
			for _, y := range []pair{{0, 1}, {1, 0}, {1, 2}, {-500, 1}, {500, 1}, {501, 1}, {-501, 1}, {1, 501}, {2, 2}, {502, 2}, {1, -1}, {-1, 0}} {
				want := api.OK
				if !isFraction(x) || !isFraction(y) {
					want = api.ErrRatio
				} else if isGreat(x) || isGreat(y) {
					want = api.ErrArg
				} else if _, ok := closingOf(x, y, 0); !ok {
					want = api.ErrNone
				}
				for _, swapped := range []bool{false, true} {
					a, b := x, y
					if swapped {
						a, b = y, x
					}
					c, d, e := tangle.Close(a[0], a[1], b[0], b[1])
					if e != want || e != api.OK && (c != 0 || d != 0) {
						t.Errorf("Close of %v and %v: %d, %d, %d, not %d", a, b, c, d, e, want)
					}
				}
			}
		}
	}
}

// P6.5, P6.8: closings of all fractions with small numbers, in both orders.
func TestClosings(t *testing.T) {
	for x := range fractionsUpTo(9) {
		for y := range fractionsUpTo(9) {
			for turns := int64(-1); turns <= 2; turns++ {
				checkClose(t, x, y, turns)
			}
			checkSymmetric(t, x, y)
		}
	}
}

// checkSymmetric checks that the closing is that of the fractions in the other order.
func checkSymmetric(t *testing.T, x, y pair) {
	t.Helper()
	p, q, e := tangle.Close(x[0], x[1], y[0], y[1])
	r, s, f := tangle.Close(y[0], y[1], x[0], x[1])
	if p != r || q != s || e != f {
		t.Errorf("Close of %v and %v: %d, %d, %d, and %d, %d, %d", x, y, p, q, e, r, s, f)
	}
}

// P6.5, P6.8: closings of random fractions.
func TestManyClosings(t *testing.T) {
	r := rand.New(rand.NewSource(5))
	for range 10000 {
		x, y := someFraction(r, 500), someFraction(r, 500)
		checkClose(t, x, y, r.Int63n(9)-4)
		checkSymmetric(t, x, y)
		p, q, e := tangle.Close(x[0], x[1], y[0], y[1])
		if n := x[0]*y[1] + x[1]*y[0]; e == api.OK && (p != max(n, -n) || tangle.CheckLink(p, q) != api.OK) {
			t.Errorf("Close of %v and %v: %d, %d", x, y, p, q)
		}
		if a, b, _ := tangle.First(p, q); e == api.OK && (a != p || b != q) {
			t.Errorf("Close of %v and %v: %d, %d, not %d, %d", x, y, p, q, a, b)
		}
	}
}

// P6.8: the closing of a fraction and 0, 1.
func TestClosingsWithNothing(t *testing.T) {
	for x := range fractionsUpTo(120) {
		p, q := x[0], x[1]
		if p <= 0 {
			continue
		}
		a, b, e := tangle.Close(p, q, 0, 1)
		c, d, f := tangle.First(p, q%p)
		if a != c || b != d || e != api.OK || f != api.OK {
			t.Errorf("Close of %v and 0, 1: %d, %d, %d, not %d, %d, %d", x, a, b, e, c, d, f)
		}
	}
}
