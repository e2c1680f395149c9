package heat_test

import (
	"math"
	"math/rand"
	"slices"
	"testing"

	"forcola/api"
	"forcola/heat"
)

// notTripleBoats are numbers for which there are no triple systems here.
var notTripleBoats = []int{2, 1, 0, -1, -3, -9, -15, 28, 29, 31, 33, 39, 81, 1 << 32, 1<<32 + 3, 1<<32 + 9, -1<<32 + 15, math.MaxInt, math.MinInt, math.MinInt + 3}

// P9.3: numbers of boats that are not in range.
func TestNoTriples(t *testing.T) {
	for _, n := range notTripleBoats {
		if l, e := heat.Triples(n); len(l) != 0 || e != api.ErrArg {
			t.Errorf("Triples of %d: %v, %d", n, l, e)
		}
		if days, e := heat.Days(n); len(days) != 0 || e != api.ErrArg {
			t.Errorf("Days of %d: %v, %d", n, days, e)
		}
		for _, l := range [][][3]int{nil, {{0, 1, 2}}, ofTwo(7), ofTwo(31)} {
			if heat.IsTriples(n, l) || heat.IsDays(n, nil) || heat.IsDays(n, [][][3]int{l}) {
				t.Errorf("IsTriples and IsDays of %d, %v", n, l)
			}
		}
	}
}

// P9.3: triple systems for all numbers that leave the rest 1 or 3 by 6; P9.6: how many triples they have.
func TestTriples(t *testing.T) {
	for n := 3; n <= 27; n++ {
		l, e := heat.Triples(n)
		if n%6 != 1 && n%6 != 3 {
			if len(l) != 0 || e != api.ErrNone {
				t.Errorf("Triples of %d: %v, %d", n, l, e)
			}
			continue
		}
		if !isSystem(n, l) || !heat.IsTriples(n, l) || len(l) != n*(n-1)/6 || e != api.OK {
			t.Errorf("Triples of %d: %v, %d", n, l, e)
		}
		for boat := range n {
			count := 0
			for _, x := range l {
				if slices.Contains(x[:], boat) {
					count++
				}
			}
			if count != (n-1)/2 {
				t.Errorf("Triples of %d: boat %d is in %d of %v", n, boat, count, l)
			}
		}
	}
}

// checkTriples compares IsTriples to its definition.
func checkTriples(t *testing.T, n int, l [][3]int) {
	if is := heat.IsTriples(n, l); is != isSystem(n, l) {
		t.Errorf("IsTriples of %d, %v: %t", n, l, is)
	}
}

// P9.3: all short lists of three boats, with numbers just out of range, too.
func TestIsTriplesOfThree(t *testing.T) {
	var all [][3]int
	for a := -1; a <= 3; a++ {
		for b := -1; b <= 3; b++ {
			for c := -1; c <= 3; c++ {
				all = append(all, [3]int{a, b, c})
			}
		}
	}
	checkTriples(t, 3, nil)
	for _, x := range all {
		checkTriples(t, 3, [][3]int{x})
		for _, y := range all {
			checkTriples(t, 3, [][3]int{x, y})
		}
	}
	if !heat.IsTriples(3, [][3]int{{0, 1, 2}}) {
		t.Errorf("IsTriples of the only triple")
	}
}

// P9.3: all lists of triples in order for four and five boats, and of as many as there may be for six: there are no systems.
func TestIsTriplesOfFew(t *testing.T) {
	for n := 4; n <= 5; n++ {
		all := allThrees(n)
		for set := range 1 << len(all) {
			var l [][3]int
			for i, x := range all {
				if set>>i&1 == 1 {
					l = append(l, x)
				}
			}
			if heat.IsTriples(n, l) {
				t.Errorf("IsTriples of %d, %v", n, l)
			}
		}
	}
	all := allThrees(6)
	for i, a := range all {
		for j, b := range all[:i] {
			for k, c := range all[:j] {
				for _, d := range all[:k] {
					if l := [][3]int{d, c, b, a}; heat.IsTriples(6, l) {
						t.Errorf("IsTriples of 6, %v", l)
					}
				}
			}
		}
	}
}

// P9.3: there are thirty systems for seven boats.
func TestIsTriplesOfSeven(t *testing.T) {
	all := allThrees(7)
	count := 0
	var build func(l [][3]int, next int)
	build = func(l [][3]int, next int) {
		checkTriples(t, 7, l)
		if heat.IsTriples(7, l) {
			count++
		}
		for i := next; i < len(all); i++ {
			if meetOnce(l, all[i]) {
				build(append(slices.Clone(l), all[i]), i+1)
			}
		}
	}
	build(nil, 0)
	if count != 30 {
		t.Errorf("%d systems for seven boats", count)
	}
}

// meetOnce reports whether x has at most one boat of each triple of l.
func meetOnce(l [][3]int, x [3]int) bool {
	for _, y := range l {
		count := 0
		for _, boat := range x {
			if slices.Contains(y[:], boat) {
				count++
			}
		}
		if count > 1 {
			return false
		}
	}
	return true
}

// P9.3: systems with other numbers, and with one thing that is wrong.
func TestIsTriples(t *testing.T) {
	r := rand.New(rand.NewSource(21))
	for n := 3; n <= 27; n++ {
		plain, e := heat.Triples(n)
		if e != api.OK {
			continue
		}
		for range 20 {
			l := sorted(renumbered(r.Perm(n), plain))
			if !heat.IsTriples(n, l) || !isSystem(n, l) {
				t.Errorf("IsTriples of %d, %v", n, l)
			}
			i, j := r.Intn(len(l)), r.Intn(len(l))
			for _, change := range []func(l [][3]int) [][3]int{
				func(l [][3]int) [][3]int { return slices.Delete(l, i, i+1) },
				func(l [][3]int) [][3]int { return slices.Insert(l, i, l[i]) },
				func(l [][3]int) [][3]int { l[i] = l[j]; return l },
				func(l [][3]int) [][3]int { l[i], l[j] = l[j], l[i]; return l },
				func(l [][3]int) [][3]int { l[i][r.Intn(3)] = r.Intn(n+2) - 1; return l },
				func(l [][3]int) [][3]int { l[i][r.Intn(3)] = r.Intn(n); return sorted(renumbered(r.Perm(n), l)) },
				func(l [][3]int) [][3]int { l[i][0], l[i][1] = l[i][1], l[i][0]; return l },
				func(l [][3]int) [][3]int { l[i][2], l[i][1] = l[i][1], l[i][2]; return l },
				func(l [][3]int) [][3]int { return append(l, [3]int{n, n + 1, n + 2}) },
				func(l [][3]int) [][3]int { return append(l, [3]int{n - 3, n - 2, n - 1}) },
				func(l [][3]int) [][3]int { return slices.Insert(l, 0, [3]int{-3, -2, -1}) },
				func(l [][3]int) [][3]int { l[len(l)-1][2] = math.MaxInt; return l },
				func(l [][3]int) [][3]int { l[0][0] = math.MinInt; return l },
			} {
				checkTriples(t, n, change(slices.Clone(l)))
			}
			for other := -1; other <= 29; other++ {
				checkTriples(t, other, l)
			}
		}
	}
}

// P9.3: triples that are the only ones, but for the boats that are too few or too many.
func TestIsTriplesOutOfRange(t *testing.T) {
	for _, x := range []struct {
		n    int
		l    [][3]int
		want bool
	}{
		{7, ofTwo(7), true}, {15, ofTwo(15), true}, {31, ofTwo(31), false}, {27, ofTwo(31), false}, {8, ofTwo(7), false}, {6, ofTwo(7), false}, {3, ofTwo(3), true}, {1, nil, false}, {0, nil, false}, {2, nil, false}, {-1, nil, false}, {3, nil, false}, {4, nil, false}, {27, nil, false}, {27, make([][3]int, 1<<20), false},
	} {
		if is := heat.IsTriples(x.n, x.l); is != x.want {
			t.Errorf("IsTriples of %d, %v: %t", x.n, x.l, is)
		}
	}
}
