package shift_test

import (
	"math"
	"math/rand"
	"slices"
	"testing"

	"forcola/api"
	"forcola/shift"
)

// checkBoats compares the boats to all others, and the peak to all numbers from low to high; P10.8.
func checkBoats(t *testing.T, l [][2]int, low, high int) {
	t.Helper()
	boats, x, e := shift.Boats(l)
	want, count := peak(l, low, high)
	if e != api.OK || x != want || !areBoats(l, boats, count) {
		t.Errorf("Boats of %v: %v, %d, %d; the peak is %d, of %d", l, boats, x, e, want, count)
	}
	if fewest := fewestBoats(l); fewest != count {
		t.Errorf("Boats of %v: %d, but there are %d", l, count, fewest)
	}
}

// P10.4, P10.8: all lists of at most four intervals with ends from 0 to 4.
func TestAllBoats(t *testing.T) {
	var spans [][2]int
	for right := range 5 {
		for left := range right + 1 {
			spans = append(spans, [2]int{left, right})
		}
	}
	for n := 1; n <= 4; n++ {
		eachChoice(n, len(spans), func(choice []int) {
			l := make([][2]int, n)
			for i, c := range choice {
				l[i] = spans[c]
			}
			checkBoats(t, l, -1, 5)
		})
	}
}

// P10.4, P10.8: up to twelve random intervals, some of them short.
func TestRandomBoats(t *testing.T) {
	r := rand.New(rand.NewSource(7))
	for range 3000 {
		l := randomIntervals(r, 1+r.Intn(12), 1+r.Intn(25))
		for i := range l {
			if r.Intn(2) == 0 {
				l[i][1] = min(l[i][1], l[i][0]+r.Intn(4))
			}
		}
		checkBoats(t, l, -3, 24)
	}
}

// P10.4: only the order of the ends counts, whatever their size.
func TestGreatBoats(t *testing.T) {
	great := []int{math.MinInt, math.MinInt + 1, -1 << 40, -1, 0, 1, 1 << 33, math.MaxInt - 1, math.MaxInt}
	r := rand.New(rand.NewSource(8))
	for range 2000 {
		l := randomIntervals(r, 1+r.Intn(12), len(great))
		far := make([][2]int, len(l))
		for i, x := range l {
			far[i] = [2]int{great[x[0]+2], great[x[1]+2]}
		}
		boats, x, e := shift.Boats(far)
		want, count := peak(l, -2, len(great))
		if e != api.OK || x != great[want+2] || !areBoats(far, boats, count) {
			t.Errorf("Boats of %v: %v, %d, %d", far, boats, x, e)
		}
	}
	for _, c := range great {
		if boats, x, e := shift.Boats([][2]int{{c, math.MaxInt}}); !slices.Equal(boats, []int{0}) || x != c || e != api.OK {
			t.Errorf("Boats of one from %d: %v, %d, %d", c, boats, x, e)
		}
	}
}

// P10.4: twelve boats, one boat, and a peak in which an end and a beginning meet.
func TestBuiltBoats(t *testing.T) {
	apart, nested, ring := make([][2]int, 12), make([][2]int, 12), make([][2]int, 12)
	for i := range 12 {
		apart[i] = [2]int{-2 * i, -2*i + 1}
		nested[i] = [2]int{i, 30 - i}
		ring[i] = [2]int{5 * i % 12, 5*i%12 + 1}
	}
	for _, c := range []struct {
		l           [][2]int
		count, peak int
	}{{apart, 1, -22}, {nested, 12, 11}, {ring, 2, 1}} {
		boats, x, e := shift.Boats(c.l)
		if e != api.OK || x != c.peak || !areBoats(c.l, boats, c.count) {
			t.Errorf("Boats of %v: %v, %d, %d", c.l, boats, x, e)
		}
		checkBoats(t, c.l, -30, 40)
	}
}
