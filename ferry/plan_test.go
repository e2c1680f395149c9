package ferry_test

import (
	"math"
	"math/rand"
	"slices"
	"testing"

	"forcola/api"
	"forcola/ferry"
)

// checkPlan compares Plan to its definition.
func checkPlan(t *testing.T, p picture, seats int) {
	plan, ok, e := ferry.Plan(p.n, p.edges(), seats)
	fewest := p.fewestTrips(seats)
	if ok != (fewest > 0) || len(plan) != fewest || e != api.OK {
		t.Errorf("Plan of %d, %v, %d: %v, %t, %d, but the fewest trips are %d", p.n, p.edges(), seats, plan, ok, e, fewest)
	}
	if ok != p.isPlan(seats, plan) || ok != ferry.IsPlan(p.n, p.edges(), seats, plan) {
		t.Errorf("Plan of %d, %v, %d: %v, %t", p.n, p.edges(), seats, plan, ok)
	}
}

// P8.2: plans with the fewest trips.
func TestPlan(t *testing.T) {
	for n := 1; n <= 5; n++ {
		for p := range allPictures(n) {
			for seats := range n + 2 {
				checkPlan(t, p, seats)
			}
			checkPlan(t, p, 10)
		}
	}
	for p := range somePictures(11, 150, 6, 10) {
		least, _ := ferry.Least(p.n, p.edges())
		for seats := max(0, least-1); seats <= min(10, least+2); seats++ {
			checkPlan(t, p, seats)
		}
	}
	for p := range builtPictures(12) {
		for seats := range 11 {
			checkPlan(t, p, seats)
		}
	}
}

// P8.2: how many trips some plans have.
func TestTrips(t *testing.T) {
	for _, x := range []struct {
		n     int
		edges [][2]int
		seats int
		want  int // 0 if there is no plan
	}{
		{1, nil, 0, 0}, {1, nil, 1, 1}, {1, nil, 10, 1}, {10, nil, 0, 0}, {10, nil, 1, 19}, {10, nil, 2, 9}, {10, nil, 3, 7}, {10, nil, 9, 3}, {10, nil, 10, 1}, {3, nil, 2, 3}, {3, path(3), 0, 0}, {3, path(3), 1, 7}, {3, path(3), 2, 3}, {3, path(3), 3, 1},
		{10, complete(10), 8, 0}, {10, complete(10), 9, 3}, {10, complete(10), 10, 1}, {4, star(4), 1, 0}, {10, star(10), 1, 0}, {2, path(2), 0, 0}, {2, path(2), 1, 3}, {2, path(2), 2, 1},
	} {
		plan, ok, e := ferry.Plan(x.n, x.edges, x.seats)
		if len(plan) != x.want || ok != (x.want > 0) || e != api.OK {
			t.Errorf("Plan of %d, %v, %d: %v, %t, %d", x.n, x.edges, x.seats, plan, ok, e)
		}
	}
}

// P8.2: numbers of seats that are not in range.
func TestPlanErrors(t *testing.T) {
	for _, seats := range []int{-1, 11, -11, 16, 1 << 32, 1<<32 + 1, math.MaxInt, math.MinInt} {
		for n := 1; n <= 10; n += 3 {
			plan, ok, e := ferry.Plan(n, path(n), seats)
			if len(plan) != 0 || ok || e != api.ErrArg {
				t.Errorf("Plan of %d, %d: %v, %t, %d", n, seats, plan, ok, e)
			}
		}
	}
}

// checkIsPlan compares IsPlan to its definition.
func checkIsPlan(t *testing.T, p picture, seats int, plan []int) {
	if ok := ferry.IsPlan(p.n, p.edges(), seats, plan); ok != p.isPlan(seats, plan) {
		t.Errorf("IsPlan of %d, %v, %d, %v: %t", p.n, p.edges(), seats, plan, ok)
	}
}

// P8.2: all short lists, with numbers just out of range, too.
func TestIsPlanOfAllLists(t *testing.T) {
	for _, x := range []struct{ n, most int }{{1, 6}, {2, 5}, {3, 3}} {
		for p := range allPictures(x.n) {
			for size := range x.most + 1 {
				for plan := range lists(size, -1, 1<<p.n) {
					for seats := -1; seats <= p.n+1; seats++ {
						checkIsPlan(t, p, seats, plan)
					}
				}
			}
		}
	}
}

// P8.2: plans in some of which one thing is wrong.
func TestIsPlan(t *testing.T) {
	for _, x := range []struct {
		n     int
		edges [][2]int
		seats int
		plan  []int
		want  bool
	}{
		{3, path(3), 1, []int{2, 0, 1, 2, 4, 0, 2}, true},
		{3, path(3), 1, []int{2, 0, 4, 2, 1, 0, 2}, true},
		{3, path(3), math.MaxInt, []int{2, 0, 1, 2, 4, 0, 2}, true},
		{3, path(3), 16, []int{7}, true},
		{3, path(3), 0, []int{2, 0, 1, 2, 4, 0, 2}, false},                // no seats
		{3, path(3), -1, []int{2, 0, 1, 2, 4, 0, 2}, false},               // fewer
		{3, path(3), math.MinInt, []int{7}, false},                        // fewer
		{3, path(3), 2, []int{7}, false},                                  // one seat too few
		{3, path(3), 1, []int{1, 0, 2, 1, 4, 0, 1}, false},                // goat and cabbage are left
		{3, path(3), 1, []int{2, 0, 1, 0, 4, 0}, false},                   // wolf and goat are left on the right bank
		{3, path(3), 1, []int{2, 0, 1, 2, 4, 0}, false},                   // the goat is on the left bank
		{3, path(3), 1, []int{2, 0, 1, 2, 4, 0, 2, 0}, false},             // an even number, and the right bank not quiet
		{3, path(3), 1, []int{2, 0, 1, 2, 4, 0, 2, 2}, false},             // an even number
		{3, path(3), 1, []int{2, 0, 1, 2, 4, 0, 2, 2, 2}, true},           // the goat goes back and comes again
		{3, path(3), 1, []int{2, 2, 2, 0, 1, 2, 4, 0, 2}, true},           // the same at first
		{3, path(3), 1, []int{2, 0, 1, 2, 4, 0, 0, 0, 2}, true},           // a way without passengers
		{3, path(3), 1, []int{2, 0, 2, 0, 1, 2, 4, 0, 2}, false},          // the goat is on the right bank already
		{3, path(3), 1, []int{2, 1, 1, 2, 4, 0, 2}, false},                // the wolf is on the left bank still
		{3, path(3), 1, []int{2, 0, 1, 2, 4, 0, 2 | 1<<3}, false},         // a passenger that there is not
		{3, path(3), 1, []int{2, 0, 1, 2, 4, 0, 2 | 1<<32}, false},        // another one
		{3, path(3), 2, []int{2, 0, 1, 2, 4, 0, 2 | 1<<62}, false},        // another one
		{3, path(3), 9, []int{2, math.MinInt, 1, 2, 4, 0, 2}, false},      // no set
		{3, path(3), 64, []int{-1}, false},                                // no set
		{3, path(3), math.MaxInt, []int{math.MaxInt}, false},              // passengers that there are not
		{3, path(3), 1, nil, false},                                       // an even number
		{1, nil, 0, nil, false},                                           // an even number
		{1, nil, 1, []int{0}, false},                                      // the passenger is on the left bank
		{1, nil, 1, []int{1, 1}, false},                                   // an even number
		{1, nil, 1, []int{1, 1, 0}, false},                                // the passenger is on the left bank again
		{1, nil, 1, []int{1, 1, 1}, true},                                 //
		{1, nil, 1, []int{1, 0, 0}, true},                                 // the ferryman comes back once more, without need
		{1, nil, 1, []int{0, 0, 1}, true},                                 //
		{2, path(2), 1, []int{0, 0, 1, 0, 2}, false},                      // both are left
		{2, path(2), 1, []int{1, 0, 2}, true},                             //
		{2, path(2), 2, []int{3, 0, 0}, false},                            // both are left on the right bank
		{2, nil, 2, []int{3, 0, 0}, true},                                 //
		{10, complete(10), 9, []int{1<<9 - 1, 1<<9 - 2, 1<<10 - 2}, true}, // 0 waits alone
		{10, complete(10), 9, []int{1<<9 - 1, 0, 1 << 9}, false},          // nine are left on the right bank
		{10, complete(10), 10, []int{1<<10 - 1}, true},                    //
		{10, complete(10), 9, []int{1<<10 - 1}, false},                    //
	} {
		if ok := ferry.IsPlan(x.n, x.edges, x.seats, x.plan); ok != x.want {
			t.Errorf("IsPlan of %d, %v, %d, %v: %t", x.n, x.edges, x.seats, x.plan, ok)
		}
	}
}

// P8.2: a list of very many trips is a plan as well.
func TestIsPlanOfManyTrips(t *testing.T) {
	plan := slices.Concat(make([]int, 100000), []int{1<<10 - 1})
	if !ferry.IsPlan(10, nil, 10, plan) || ferry.IsPlan(10, nil, 10, plan[1:]) || ferry.IsPlan(10, path(2), 10, plan) {
		t.Errorf("IsPlan of many trips")
	}
}

// P8.2: plans, and lists that are nearly plans.
func TestIsPlanOfChangedPlans(t *testing.T) {
	r := rand.New(rand.NewSource(13))
	for p := range somePictures(14, 300, 3, 10) {
		least, _ := ferry.Least(p.n, p.edges())
		seats := least + r.Intn(2)
		plan, _, _ := ferry.Plan(p.n, p.edges(), min(10, seats))
		for range 30 {
			l := slices.Clone(plan)
			at := r.Intn(len(l))
			switch r.Intn(5) {
			case 0:
				l[at] ^= 1 << r.Intn(p.n)
			case 1:
				l[at] ^= 1 << r.Intn(63)
			case 2:
				l = slices.Delete(l, at, at+1+r.Intn(len(l)-at))
			case 3:
				l = slices.Insert(l, at, plan[r.Intn(len(l))], plan[r.Intn(len(l))])
			case 4:
				l = slices.Insert(l, at, l[at], l[at])
			}
			checkIsPlan(t, p, seats, l)
			checkIsPlan(t, p, seats-1, plan)
			checkIsPlan(t, p, seats+1, l)
		}
	}
}
