package heat_test

import (
	"math"
	"slices"
	"testing"

	"forcola/api"
	"forcola/heat"
)

// notBoats are numbers for which there are no schedules.
var notBoats = []int{0, 1, 3, 5, 7, 9, 11, 13, 15, 17, 18, 19, 20, 32, -1, -2, -4, -16, 1 << 32, 1<<32 + 2, 1<<32 + 4, -1<<32 + 8, math.MaxInt, math.MaxInt - 1, math.MinInt, math.MinInt + 1}

// withSchedules are all calls that take a schedule; they report whether all but the error is zero.
var withSchedules = map[string]func(n int, s rounds) (bool, api.Errno){
	"Check":    func(n int, s rounds) (bool, api.Errno) { return true, heat.Check(n, s) },
	"Patterns": func(n int, s rounds) (bool, api.Errno) { l, e := heat.Patterns(n, s); return len(l) == 0, e },
	"Breaks":   func(n int, s rounds) (bool, api.Errno) { x, e := heat.Breaks(n, s); return x == 0, e },
	"Swap":     func(n int, s rounds) (bool, api.Errno) { l, e := heat.Swap(n, s); return len(l) == 0, e },
	"Carry":    func(n int, s rounds) (bool, api.Errno) { l, e := heat.Carry(n, s); return len(l) == 0, e },
}

// P9.1, P9.2: numbers of boats that are not even, or not in range, come before anything about the schedule.
func TestNoBoats(t *testing.T) {
	for _, n := range notBoats {
		for _, s := range []rounds{nil, {}, {nil}, {{{0, 1}}}, {{{5, 5}}}, circle(4), circle(16), circle(18)} {
			for name, call := range withSchedules {
				if zero, e := call(n, s); !zero || e != api.ErrArg {
					t.Errorf("%s of %d, %v: %d; zero values %t", name, n, s, e, zero)
				}
			}
		}
		if s, e := heat.Circle(n); len(s) != 0 || e != api.ErrArg {
			t.Errorf("Circle of %d: %v, %d", n, s, e)
		}
		if s, e := heat.Balanced(n); len(s) != 0 || e != api.ErrArg {
			t.Errorf("Balanced of %d: %v, %d", n, s, e)
		}
	}
}

// checkSchedule compares Check and all calls that return its error to the definition.
func checkSchedule(t *testing.T, n int, s rounds) {
	want := api.ErrTeams
	if isSchedule(n, s) {
		want = api.OK
	}
	if e := heat.Check(n, s); e != want {
		t.Errorf("Check of %d, %v: %d, not %d", n, s, e, want)
	}
	for name, call := range withSchedules {
		if zero, e := call(n, s); e != want || want != api.OK && !zero {
			t.Errorf("%s of %d, %v: %d, not %d; zero values %t", name, n, s, e, want, zero)
		}
	}
}

// The chapter's examples.
func TestExamples(t *testing.T) {
	s, e := heat.Circle(4)
	if !same(s, rounds{{{3, 0}, {1, 2}}, {{1, 3}, {2, 0}}, {{3, 2}, {0, 1}}}) || e != api.OK {
		t.Errorf("Circle of 4: %v, %d", s, e)
	}
	l, e := heat.Patterns(4, s)
	if !slices.Equal(l, []string{"AAH", "HHA", "AHA", "HAH"}) || e != api.OK {
		t.Errorf("Patterns: %v, %d", l, e)
	}
	if x, e := heat.Breaks(4, s); x != 2 || e != api.OK {
		t.Errorf("Breaks: %d, %d", x, e)
	}
	if l, e := heat.Triples(7); len(l) != 7 || !heat.IsTriples(7, l) || e != api.OK {
		t.Errorf("Triples of 7: %v, %d", l, e)
	}
	days, e := heat.Days(9)
	if len(days) != 4 || !heat.IsDays(9, days) || e != api.OK {
		t.Errorf("Days of 9: %v, %d", days, e)
	}
	for _, day := range days {
		if len(day) != 3 {
			t.Errorf("Days of 9: %v", days)
		}
	}
	if s, e := heat.Balanced(6); len(s) != 0 || e != api.ErrNone {
		t.Errorf("Balanced of 6: %v, %d", s, e)
	}
	if c, e := heat.Carry(2, rounds{{{0, 1}}}); !same(c, [][]int{{1, 0}, {0, 1}}) || e != api.OK {
		t.Errorf("Carry of two boats: %v, %d", c, e)
	}
	if days, e := heat.Days(15); len(days) != 7 || !heat.IsDays(15, days) || e != api.OK {
		t.Errorf("Days of 15: %v, %d", days, e)
	}
}

// overwrite changes all numbers of all lists, and what lies beyond them.
func overwrite[T any](lists [][]T, x T) {
	for _, l := range lists {
		l = l[:cap(l)]
		for i := range l {
			l[i] = x
		}
	}
	clear(lists[:cap(lists)])
}

// checkNew overwrites what make returned first, and reports whether what it returns now, and returned second, stays the same.
func checkNew[T comparable](t *testing.T, name string, make func() [][]T, x T) {
	first, second := make(), make()
	want := cloned(first)
	overwrite(first, x)
	if !same(second, want) || !same(make(), want) {
		t.Errorf("%s: %v, and then %v", name, want, second)
	}
	for i := range second {
		rest := slices.Clone(second)
		overwrite(rest[i:i+1:i+1], x)
		second[i] = want[i]
		if !same(second, want) {
			t.Errorf("%s: list %d shares memory with another one", name, i)
		}
	}
}

// R4, R7: results are new, share nothing, and are the same each time.
func TestResultsAreNew(t *testing.T) {
	s := circle(8)
	checkNew(t, "Circle", func() rounds { x, _ := heat.Circle(8); return x }, [2]int{9, 9})
	checkNew(t, "Balanced", func() rounds { x, _ := heat.Balanced(8); return x }, [2]int{9, 9})
	checkNew(t, "Swap", func() rounds { x, _ := heat.Swap(8, s); return x }, [2]int{9, 9})
	checkNew(t, "Carry", func() [][]int { x, _ := heat.Carry(8, s); return x }, 9)
	checkNew(t, "Triples", func() [][][3]int { x, _ := heat.Triples(9); return [][][3]int{x} }, [3]int{9, 9, 9})
	checkNew(t, "Days of 9", func() [][][3]int { x, _ := heat.Days(9); return x }, [3]int{9, 9, 9})
	checkNew(t, "Days of 15", func() [][][3]int { x, _ := heat.Days(15); return x }, [3]int{9, 9, 9})
	checkNew(t, "Patterns", func() [][]string { x, _ := heat.Patterns(8, s); return [][]string{x} }, "")
	if !same(s, circle(8)) {
		t.Errorf("the schedule is now %v", s)
	}
}

// R4: arguments stay as they are, and what lies beyond them counts for nothing.
func TestArguments(t *testing.T) {
	long := append(circle(6), [][2]int{{0, 1}})
	for i := range long {
		long[i] = append(long[i], [2]int{7, 7})[:len(long[i])]
	}
	s := long[:5]
	kept := cloned(long)
	for name, call := range withSchedules {
		if _, e := call(6, s); e != api.OK || !same(long, kept) {
			t.Errorf("%s: %d, and the schedule is now %v", name, e, long)
		}
	}
	days, _ := heat.Days(9)
	for _, day := range days {
		slices.Reverse(day)
	}
	were := cloned(days)
	l := sorted(slices.Concat(days...))
	l = append(l, [3]int{})[:len(l)]
	triples := slices.Clone(l)
	if !heat.IsDays(9, days) || !heat.IsTriples(9, l) || !same(days, were) || !slices.Equal(l, triples) {
		t.Errorf("the arguments are now %v, %v", days, l)
	}
}
