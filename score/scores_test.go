package score_test

import (
	"math"
	"math/rand"
	"slices"
	"testing"

	"forcola/api"
	"forcola/score"
)

// checkHold compares Hold to the definition, where it is known whether there is a realization.
func checkHold(t *testing.T, l []int, want bool) {
	table, ok, e := score.Hold(l)
	if ok != want || e != api.OK || ok && (!isRegatta(table) || !slices.Equal(scoresOf(table), l)) || !ok && len(table) != 0 {
		t.Errorf("Hold of %v: %v, %t, not %t, %d", l, table, ok, want, e)
	}
}

// checkShort compares Short and IsShort to the definition.
func checkShort(t *testing.T, l []int) {
	want, is := least(l, falls)
	if k, ok, e := score.Short(l); k != want || ok != is || e != api.OK {
		t.Errorf("Short of %v: %d, %t, not %d, %t, %d", l, k, ok, want, is, e)
	}
	for k := -2; k <= len(l)+2; k++ {
		if is := score.IsShort(l, k); is != falls(l, k) {
			t.Errorf("IsShort of %v, %d: %t", l, k, is)
		}
	}
}

// P5.2: some lists of scores.
func TestSomeScores(t *testing.T) {
	for _, x := range []struct {
		l         []int
		violation int
	}{
		{[]int{1, 1, 1}, -1}, {[]int{0, 0, 3}, 2}, {[]int{0}, -1}, {[]int{1}, 0}, {[]int{-1}, 0}, {[]int{0, 1}, -1}, {[]int{1, 0}, -1}, {[]int{2, -1}, 1}, {[]int{1, 1}, 0}, {[]int{0, 0}, 0}, {[]int{2, 1, 0}, -1}, {[]int{0, 2, 1}, -1}, {[]int{3, 0, 0}, 2}, {[]int{3, 1, -1}, 1},
		{[]int{3, 3, 0, 0}, 2}, {[]int{4, 1, 1, 0}, 3}, {[]int{3, 1, 1, 1}, -1}, {[]int{2, 2, 2, 0}, -1}, {[]int{2, 2, 1, 1}, -1}, {[]int{2, 2, 2, 2, 2}, -1}, {[]int{2, 2, 2, 2, 3}, 0},
		{[]int{11, 10, 9, 8, 7, 6, 5, 4, 3, 2, 1, 0}, -1}, {[]int{5, 6, 5, 6, 5, 6, 5, 6, 5, 6, 5, 6}, -1}, {[]int{12, 10, 9, 8, 7, 6, 5, 4, 3, 2, 0, 0}, 2}, {[]int{12, 10, 9, 8, 7, 6, 5, 4, 3, 2, 1, -1}, 1}, {[]int{12, 9, 9, 8, 7, 6, 5, 4, 3, 2, 1, 0}, 11}, {[]int{11, 11, 8, 8, 7, 6, 5, 4, 3, 2, 1, 0}, 10},
	} {
		checkHold(t, x.l, x.violation < 0)
		if k, ok, e := score.Short(x.l); k != max(x.violation, 0) || ok != (x.violation >= 0) || e != api.OK {
			t.Errorf("Short of %v: %d, %t, %d", x.l, k, ok, e)
		}
		checkShort(t, x.l)
	}
}

// P5.2: lists of a wrong length, whatever the numbers in them.
func TestLengthsOfScores(t *testing.T) {
	for n := 0; n <= 30; n++ {
		want := api.OK
		if n == 0 {
			want = api.ErrArg
		} else if n > 12 {
			want = api.ErrLong
		}
		for _, number := range []int{0, 1, 6, -1, math.MaxInt, math.MinInt} {
			l := slices.Repeat([]int{number}, n)
			table, ok, e := score.Hold(l)
			if e != want || e != api.OK && (len(table) != 0 || ok) {
				t.Errorf("Hold of %d times %d: %v, %t, %d", n, number, table, ok, e)
			}
			k, ok, e := score.Short(l)
			if e != want || e != api.OK && (k != 0 || ok) {
				t.Errorf("Short of %d times %d: %d, %t, %d", n, number, k, ok, e)
			}
			if want == api.OK {
				continue
			}
			for k := -1; k <= n+1; k++ {
				if score.IsShort(l, k) {
					t.Errorf("IsShort of %d times %d, %d", n, number, k)
				}
			}
		}
	}
}

// P5.2, P5.5: a realization or a violation of all lists of few small numbers.
func TestLandau(t *testing.T) {
	for n := 1; n <= 5; n++ {
		found := map[[5]int]bool{}
		key := func(l []int) (k [5]int) { copy(k[:], l); return k }
		for table := range allRegattas(n) {
			found[key(scoresOf(table))] = true
		}
		for l := range lists(n, -1, n+1) {
			checkHold(t, l, found[key(l)])
			checkShort(t, l)
			if _, ok, _ := score.Short(l); ok == found[key(l)] {
				t.Errorf("Short of %v: %t", l, ok)
			}
		}
	}
}

// P5.2, P5.5: lists of up to twelve numbers, those of regattas, and those next to them.
func TestManyScores(t *testing.T) {
	r := rand.New(rand.NewSource(3))
	without := 0
	for table := range someRegattas(4, 3000, 12) {
		l := scoresOf(table)
		checkHold(t, l, true)
		checkShort(t, l)
		for range 3 {
			l[r.Intn(len(l))]++
			l[r.Intn(len(l))]--
			_, is := least(l, falls)
			checkHold(t, l, !is)
			checkShort(t, l)
			if is {
				without++
			}
		}
	}
	if without < 1000 {
		t.Errorf("%d lists without a realization are too few", without)
	}
}

// P5.2, R9, R10: sums are exact, whatever their size.
func TestHugeScores(t *testing.T) {
	for _, l := range append(hugeLists(5, 5000, 12), slices.Repeat([]int{math.MaxInt}, 12), slices.Repeat([]int{math.MinInt}, 12), []int{1 << 62, 1 << 62, 1 << 62, 1<<62 + 6}, []int{math.MinInt, math.MinInt, 3}, []int{math.MaxInt, math.MinInt, 4}, []int{math.MaxInt, math.MinInt, 2}) {
		if len(l) == 0 {
			continue
		}
		_, is := least(l, falls)
		checkHold(t, l, !is)
		checkShort(t, l)
	}
	for _, k := range []int{math.MinInt, math.MaxInt, -1, 4, 1 << 32} {
		if score.IsShort([]int{0, 0, 0}, k) {
			t.Errorf("IsShort of %d", k)
		}
	}
}
