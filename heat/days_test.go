package heat_test

import (
	"math"
	"math/rand"
	"slices"
	"testing"

	"forcola/api"
	"forcola/heat"
)

type days = [][][3]int

// P9.3, P9.6, W5: days for 3, 9, 15 and 27 alone, and how many they are.
func TestDays(t *testing.T) {
	for n := 3; n <= 27; n++ {
		l, e := heat.Days(n)
		if n != 3 && n != 9 && n != 15 && n != 27 {
			if len(l) != 0 || e != api.ErrNone {
				t.Errorf("Days of %d: %v, %d", n, l, e)
			}
			continue
		}
		if !areDays(n, l) || !heat.IsDays(n, l) || len(l) != (n-1)/2 || e != api.OK {
			t.Errorf("Days of %d: %v, %d", n, l, e)
		}
		for _, day := range l {
			if len(day) != n/3 {
				t.Errorf("Days of %d: %v", n, l)
			}
		}
	}
}

// checkDays compares IsDays to its definition.
func checkDays(t *testing.T, n int, l days) {
	if is := heat.IsDays(n, l); is != areDays(n, l) {
		t.Errorf("IsDays of %d, %v: %t", n, l, is)
	}
}

// otherDays are the same but for the boats' numbers, and the order of days and triples.
func otherDays(r *rand.Rand, n int, l days) days {
	order := r.Perm(n)
	var x days
	for _, day := range l {
		day = renumbered(order, day)
		r.Shuffle(len(day), func(i, j int) { day[i], day[j] = day[j], day[i] })
		x = append(x, day)
	}
	r.Shuffle(len(x), func(i, j int) { x[i], x[j] = x[j], x[i] })
	return x
}

// P9.3: days and triples in any order, and with one thing that is wrong.
func TestIsDays(t *testing.T) {
	r := rand.New(rand.NewSource(31))
	for _, n := range []int{3, 9, 15, 27} {
		plain, _ := heat.Days(n)
		for range 30 {
			l := otherDays(r, n, plain)
			if !heat.IsDays(n, l) || !areDays(n, l) {
				t.Errorf("IsDays of %d, %v", n, l)
			}
			i, j := r.Intn(len(l)), r.Intn(len(l[0]))
			other := (i + 1) % len(l)
			for _, change := range []func(l days) days{
				func(l days) days { return slices.Delete(l, i, i+1) },
				func(l days) days { return append(l, nil) },
				func(l days) days { return append(l, l[i]) },
				func(l days) days { l[i] = nil; return l },
				func(l days) days { l[i] = l[other]; return l },
				func(l days) days { l[i] = slices.Delete(l[i], j, j+1); return l },
				func(l days) days { l[i] = append(l[i], l[i][j]); return l },
				func(l days) days { l[i] = append(l[i], l[other][j]); return l },
				func(l days) days { l[i][j], l[other][j] = l[other][j], l[i][j]; return l },
				func(l days) days {
					l[i], l[other] = append(l[i], l[other][j]), slices.Delete(l[other], j, j+1)
					return l
				},
				func(l days) days { l[i] = slices.Concat(l[i], l[other]); return slices.Delete(l, other, other+1) },
				func(l days) days { l[i] = slices.Concat(l[i], l[other]); l[other] = nil; return l },
				func(l days) days { l[i][j][0], l[i][j][1] = l[i][j][1], l[i][j][0]; return l },
				func(l days) days { l[i][j][2], l[i][j][1] = l[i][j][1], l[i][j][2]; return l },
				func(l days) days { l[i][j][r.Intn(3)] = r.Intn(n+2) - 1; return l },
				func(l days) days { l[i][j][0] = math.MinInt; return l },
				func(l days) days { l[i][j][2] = math.MaxInt; return l },
				func(l days) days { l[i][j] = [3]int{n, n + 1, n + 2}; return l },
				func(l days) days { l[0][0][0], l[i][j][2] = l[i][j][2], l[0][0][0]; return l },
			} {
				checkDays(t, n, change(cloned(l)))
			}
			for n := -1; n <= 29; n++ {
				checkDays(t, n, l)
			}
		}
	}
}

// P9.3: triples that are a system but not of days, and days that are of no system.
func TestIsDaysOfOthers(t *testing.T) {
	for _, x := range []struct {
		n    int
		l    days
		want bool
	}{
		{3, days{{{0, 1, 2}}}, true},
		{3, days{{{0, 2, 1}}}, false},
		{3, days{{{1, 2, 3}}}, false},
		{3, days{{{0, 1, 2}}, nil}, false},
		{3, days{{{0, 1, 2}}, {{0, 1, 2}}}, false},
		{3, days{{{0, 1, 2}, {0, 1, 2}}}, false},
		{3, nil, false},
		{1, nil, false},
		{2, nil, false},
		{7, days{ofTwo(7)}, false},
		{7, days{ofTwo(7)[:2], ofTwo(7)[2:4], ofTwo(7)[4:]}, false},
		{6, days{{{0, 1, 2}, {3, 4, 5}}, {{0, 1, 3}, {2, 4, 5}}}, false},
		{9, days{{{0, 1, 2}, {3, 4, 5}, {6, 7, 8}}, {{0, 3, 6}, {1, 4, 7}, {2, 5, 8}}, {{0, 4, 8}, {1, 5, 6}, {2, 3, 7}}, {{0, 5, 7}, {1, 3, 8}, {2, 4, 6}}}, true},
		{9, days{{{0, 1, 2}, {3, 4, 5}, {6, 7, 8}}, {{0, 3, 6}, {1, 4, 7}, {2, 5, 8}}, {{0, 4, 8}, {1, 5, 6}, {2, 3, 7}}, {{0, 4, 8}, {1, 5, 6}, {2, 3, 7}}}, false},
		{9, days{{{0, 1, 2}, {3, 4, 5}, {6, 7, 8}}, {{0, 3, 6}, {1, 4, 7}, {2, 5, 8}}, {{0, 4, 8}, {1, 5, 6}, {2, 3, 7}}}, false},
		{9, days{{{0, 1, 2}, {3, 4, 5}, {0, 3, 6}}, {{6, 7, 8}, {1, 4, 7}, {2, 5, 8}}, {{0, 4, 8}, {1, 5, 6}, {2, 3, 7}}, {{0, 5, 7}, {1, 3, 8}, {2, 4, 6}}}, false},
		{15, make(days, 1<<20), false},
		{3, days{make([][3]int, 1<<20)}, false},
		{15, make(days, 7), false},
	} {
		if is := heat.IsDays(x.n, x.l); is != x.want || is != areDays(x.n, x.l) && len(x.l) < 100 {
			t.Errorf("IsDays of %d, %v: %t", x.n, x.l, is)
		}
	}
	// Eighty-one boats would have forty days, by lines of a space of four dimensions.
	if heat.IsDays(81, linesOfFour()) {
		t.Errorf("IsDays of 81")
	}
}

// linesOfFour are days for 81 boats, whose coordinates are digits by 3.
func linesOfFour() days {
	plus := func(a, b int) int {
		sum := 0
		for unit := 1; unit < 81; unit *= 3 {
			sum += (a/unit + b/unit) % 3 * unit
		}
		return sum
	}
	var l days
	for d := 1; d < 81; d++ {
		if plus(d, d) < d {
			continue
		}
		var day [][3]int
		for a := range 81 {
			x := [3]int{a, plus(a, d), plus(plus(a, d), d)}
			slices.Sort(x[:])
			if x[0] == a {
				day = append(day, x)
			}
		}
		l = append(l, day)
	}
	return l
}
