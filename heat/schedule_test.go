package heat_test

import (
	"math"
	"math/rand"
	"slices"
	"strings"
	"testing"

	"forcola/api"
	"forcola/heat"
)

// P9.1: shuffled schedules are schedules, and the results are those of the definitions.
func TestSchedules(t *testing.T) {
	for n, s := range someSchedules(1, 60) {
		checkSchedule(t, n, s)
		if l, e := heat.Patterns(n, s); !slices.Equal(l, patterns(n, s)) || e != api.OK {
			t.Errorf("Patterns of %d, %v: %v, %d", n, s, l, e)
		}
		if x, e := heat.Breaks(n, s); x != breaks(n, s) || e != api.OK {
			t.Errorf("Breaks of %d, %v: %d, %d", n, s, x, e)
		}
		if x, e := heat.Swap(n, s); !same(x, swapped(s)) || e != api.OK {
			t.Errorf("Swap of %d, %v: %v, %d", n, s, x, e)
		}
		if c, e := heat.Carry(n, s); !same(c, carry(n, s)) || e != api.OK {
			t.Errorf("Carry of %d, %v: %v, %d", n, s, c, e)
		}
	}
}

// P9.1: all lists of one match of two boats.
func TestCheckOfTwo(t *testing.T) {
	for a := -2; a <= 3; a++ {
		for b := -2; b <= 3; b++ {
			checkSchedule(t, 2, rounds{{{a, b}}})
			checkSchedule(t, 2, rounds{{{0, 1}}, {{a, b}}})
			checkSchedule(t, 2, rounds{{{0, 1}, {a, b}}})
		}
	}
	for _, s := range []rounds{nil, {nil}, {nil, nil}, {{{0, 1}}, nil}, {nil, {{0, 1}}}} {
		checkSchedule(t, 2, s)
	}
}

// P9.1: all lists of three rounds of two matches of four boats, some of which are schedules.
func TestCheckOfFour(t *testing.T) {
	count := 0
	for s := range allPairsOfFour() {
		e := heat.Check(4, s)
		if e == api.OK {
			count++
		}
		if (e == api.OK) != isSchedule(4, s) || e != api.OK && e != api.ErrTeams {
			t.Errorf("Check of %v: %d", s, e)
		}
	}
	if count != 48 {
		t.Errorf("%d schedules", count)
	}
}

// P9.1: schedules in which one number is another one.
func TestOneNumberWrong(t *testing.T) {
	r := rand.New(rand.NewSource(2))
	for n, s := range someSchedules(3, 40) {
		for _, x := range []int{-1, -n, n, n + 1, 27, 28, 16, 1 << 32, math.MaxInt, math.MinInt, r.Intn(n), r.Intn(n)} {
			bad := cloned(s)
			bad[r.Intn(n-1)][r.Intn(n/2)][r.Intn(2)] = x
			checkSchedule(t, n, bad)
		}
	}
}

// P9.1: schedules with a round or a match too many, too few, or at a wrong place.
func TestOneListWrong(t *testing.T) {
	r := rand.New(rand.NewSource(4))
	for n, s := range someSchedules(5, 20) {
		i, j := r.Intn(n-1), r.Intn(n/2)
		for _, change := range []func(s rounds) rounds{
			func(s rounds) rounds { return s[1:] },
			func(s rounds) rounds { return append(s, nil) },
			func(s rounds) rounds { return append(s, s[i]) },
			func(s rounds) rounds { s[i] = nil; return s },
			func(s rounds) rounds { s[i] = s[i][1:]; return s },
			func(s rounds) rounds { s[i] = append(s[i], s[i][j]); return s },
			func(s rounds) rounds { s[i] = append(s[i], [2]int{n, n + 1}); return s },
			func(s rounds) rounds { s[i] = s[(i+1)%(n-1)]; return s },                           // the same round twice, but for two boats
			func(s rounds) rounds { s[i] = swapped(s)[(i+1)%(n-1)]; return s },                  // the same with home and away exchanged
			func(s rounds) rounds { s[i][j] = s[i][(j+1)%(n/2)]; return s },                     // the same match twice, but for two boats
			func(s rounds) rounds { s[i][j][0] = s[i][j][1]; return s },                         // a boat meets itself
			func(s rounds) rounds { s[i][j] = s[(i+1)%(n-1)][j]; return s },                     // a match of another round
			func(s rounds) rounds { s[i], s[0] = s[0], s[i]; return s },                         // still a schedule
			func(s rounds) rounds { s[i][j] = [2]int{s[i][j][1], s[i][j][0]}; return s },        // still a schedule
			func(s rounds) rounds { s[i][0], s[i][j] = s[i][j], s[i][0]; return s },             // still a schedule
			func(s rounds) rounds { s[i][0], s[0][j] = s[0][j], s[i][0]; return s },             // matches of two rounds
			func(s rounds) rounds { s[i][0][0], s[i][j][1] = s[i][j][1], s[i][0][0]; return s }, // boats of two matches
		} {
			checkSchedule(t, n, change(cloned(s)))
		}
		for other := 2; other <= 16; other += 2 {
			checkSchedule(t, other, s)
		}
	}
}

// P9.1: all rounds are right, but some boats meet twice, and others never.
func TestMatchesThatAreMetTwice(t *testing.T) {
	for _, x := range []struct {
		n int
		s rounds
	}{
		{4, rounds{{{0, 1}, {2, 3}}, {{0, 2}, {1, 3}}, {{0, 1}, {2, 3}}}},
		{4, rounds{{{0, 1}, {2, 3}}, {{0, 2}, {1, 3}}, {{1, 0}, {3, 2}}}},
		{4, rounds{{{0, 1}, {2, 3}}, {{1, 0}, {3, 2}}, {{0, 3}, {1, 2}}}},
		{6, rounds{{{0, 1}, {2, 3}, {4, 5}}, {{0, 2}, {1, 4}, {3, 5}}, {{0, 3}, {1, 5}, {2, 4}}, {{0, 4}, {1, 3}, {2, 5}}, {{0, 5}, {1, 3}, {2, 4}}}},
	} {
		if e := heat.Check(x.n, x.s); e != api.ErrTeams || isSchedule(x.n, x.s) {
			t.Errorf("Check of %v: %d", x.s, e)
		}
	}
}

// P9.1: very long lists.
func TestLongLists(t *testing.T) {
	for _, s := range []rounds{make(rounds, 1<<20), {make([][2]int, 1<<20)}, {{{0, 1}}, make([][2]int, 1<<20)}} {
		for _, n := range []int{2, 16} {
			if e := heat.Check(n, s); e != api.ErrTeams {
				t.Errorf("Check of %d, and a long list: %d", n, e)
			}
		}
	}
}

// P9.1: Circle is what the promise says, in the order that it says.
func TestCircle(t *testing.T) {
	for n := 2; n <= 16; n += 2 {
		if s, e := heat.Circle(n); !same(s, circle(n)) || !isSchedule(n, s) || e != api.OK {
			t.Errorf("Circle of %d: %v, %d", n, s, e)
		}
	}
	for _, x := range []struct {
		n int
		s rounds
	}{
		{2, rounds{{{1, 0}}}},
		{4, rounds{{{3, 0}, {1, 2}}, {{1, 3}, {2, 0}}, {{3, 2}, {0, 1}}}},
		{6, rounds{{{5, 0}, {1, 4}, {3, 2}}, {{1, 5}, {2, 0}, {4, 3}}, {{5, 2}, {3, 1}, {0, 4}}, {{3, 5}, {4, 2}, {1, 0}}, {{5, 4}, {0, 3}, {2, 1}}}},
	} {
		if s, e := heat.Circle(x.n); !same(s, x.s) || e != api.OK {
			t.Errorf("Circle of %d: %v, %d", x.n, s, e)
		}
	}
}

// P9.1: some patterns and breaks.
func TestPatterns(t *testing.T) {
	for _, x := range []struct {
		n        int
		s        rounds
		patterns []string
		breaks   int
	}{
		{2, rounds{{{0, 1}}}, []string{"H", "A"}, 0},
		{2, rounds{{{1, 0}}}, []string{"A", "H"}, 0},
		{4, rounds{{{0, 1}, {2, 3}}, {{0, 2}, {1, 3}}, {{0, 3}, {1, 2}}}, []string{"HHH", "AHH", "HAA", "AAA"}, 6},
		{4, rounds{{{0, 1}, {2, 3}}, {{2, 0}, {3, 1}}, {{0, 3}, {1, 2}}}, []string{"HAH", "AAH", "HHA", "AHA"}, 2},
	} {
		l, e := heat.Patterns(x.n, x.s)
		count, f := heat.Breaks(x.n, x.s)
		if !slices.Equal(l, x.patterns) || count != x.breaks || e != api.OK || f != api.OK {
			t.Errorf("Patterns of %v: %v, %d, %d, %d", x.s, l, count, e, f)
		}
	}
}

// P9.1: who was at home is away, and each match stays at its place.
func TestSwap(t *testing.T) {
	s := rounds{{{0, 1}, {2, 3}}, {{0, 2}, {1, 3}}, {{0, 3}, {1, 2}}}
	x, e := heat.Swap(4, s)
	if !same(x, rounds{{{1, 0}, {3, 2}}, {{2, 0}, {3, 1}}, {{3, 0}, {2, 1}}}) || e != api.OK {
		t.Errorf("Swap of %v: %v, %d", s, x, e)
	}
	exchange := strings.NewReplacer("H", "A", "A", "H")
	for n, s := range someSchedules(6, 10) {
		x, _ := heat.Swap(n, s)
		y, e := heat.Swap(n, x)
		if !same(y, s) || e != api.OK {
			t.Errorf("Swap twice of %v: %v, %d", s, y, e)
		}
		before, _ := heat.Patterns(n, s)
		after, _ := heat.Patterns(n, x)
		for i := range n {
			if after[i] != exchange.Replace(before[i]) {
				t.Errorf("Swap of %v: the patterns %v become %v", s, before, after)
			}
		}
	}
}

// checkDeWerra checks the patterns and breaks of a schedule.
func checkDeWerra(t *testing.T, n int, s rounds) {
	l, e := heat.Patterns(n, s)
	count, f := heat.Breaks(n, s)
	if len(l) != n || len(slices.Compact(slices.Sorted(slices.Values(l)))) != n || count < n-2 || e != api.OK || f != api.OK {
		t.Errorf("%d, %v: patterns %v, %d breaks, %d, %d", n, s, l, count, e, f)
	}
}

// P9.4, W6: patterns are all different; two boats at most are without breaks.
func TestDeWerra(t *testing.T) {
	count := 0
	for s := range allOfFour() {
		count++
		checkSchedule(t, 4, s)
		checkDeWerra(t, 4, s)
	}
	if count != 48*64 {
		t.Errorf("%d schedules of four boats", count)
	}
	for n, s := range someSchedules(7, 100) {
		checkDeWerra(t, n, s)
	}
	for n := 2; n <= 16; n += 2 {
		s, _ := heat.Circle(n)
		checkDeWerra(t, n, s)
		if x, e := heat.Breaks(n, s); x != n-2 || e != api.OK {
			t.Errorf("Breaks of Circle of %d: %d, %d", n, x, e)
		}
	}
}
