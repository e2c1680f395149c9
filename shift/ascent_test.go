package shift_test

import (
	"math"
	"math/rand"
	"slices"
	"testing"

	"forcola/api"
	"forcola/shift"
)

// P10.5: all lists of at most five numbers from -1 to 5, in Ascents as well.
func TestAllAscents(t *testing.T) {
	for n := 1; n <= 5; n++ {
		count := int64(0)
		eachChoice(n, 7, func(choice []int) {
			l := slices.Clone(choice)
			for i := range l {
				l[i]--
			}
			is := shift.IsAscent(l)
			if is != isAscent(l) {
				t.Errorf("IsAscent of %v: %t", l, is)
			}
			if is {
				count++
			}
		})
		if k, e := shift.Ascents(n); k != count || e != api.OK {
			t.Errorf("Ascents(%d): %d, %d, not %d", n, k, e, count)
		}
	}
}

// P10.5: lists of any length.
func TestIsAscent(t *testing.T) {
	rising := numbers(1000)
	up := make([]int, 1000)
	for i := range up {
		up[i] = i % 2
	}
	// After 998 numbers, 0 and 1 by turns, there are 499 ascents.
	high, higher := slices.Clone(up), slices.Clone(up)
	high[998], higher[998] = 500, 501
	for _, c := range []struct {
		l    []int
		want bool
	}{
		{nil, false}, {[]int{}, false}, {[]int{0}, true}, {[]int{1}, false}, {[]int{-1}, false}, {[]int{0, -1}, false}, {[]int{0, 0, 2}, false}, {[]int{0, 1, 0, 2}, true}, {[]int{0, 2}, false},
		{[]int{0, 1, 2, 4}, false}, {[]int{0, 1, 1, 3}, false}, {[]int{0, 1, 0, 1, 3}, true}, {[]int{0, 1, 0, 1, 4}, false}, {[]int{0, math.MaxInt}, false}, {[]int{0, math.MinInt}, false}, {[]int{math.MinInt, math.MinInt + 1}, false},
		{make([]int, 1<<20), true}, {rising, true}, {append(slices.Clone(rising), 1000), true}, {append(slices.Clone(rising), 1001), false}, {rising[1:], false}, {up, true}, {high, true}, {higher, false},
	} {
		if is := shift.IsAscent(c.l); is != c.want {
			t.Errorf("IsAscent of %d numbers, the last %v: %t", len(c.l), c.l[max(0, len(c.l)-5):], is)
		}
	}
}

// P10.5: random lists, of which each number is about as great as it may be.
func TestRandomAscents(t *testing.T) {
	r := rand.New(rand.NewSource(9))
	yes := 0
	for range 20000 {
		l := []int{0}
		count := 0
		for range r.Intn(30) {
			x := r.Intn(count + 2)
			if r.Intn(15) == 0 {
				x = count + 1 + r.Intn(2)
			}
			if x > l[len(l)-1] {
				count++
			}
			l = append(l, x)
		}
		is := shift.IsAscent(l)
		if is != isAscent(l) {
			t.Errorf("IsAscent of %v: %t", l, is)
		}
		if is {
			yes++
		}
	}
	if yes < 5000 || yes > 15000 {
		t.Errorf("%d are ascent lists", yes)
	}
}

// P10.5: the numbers of ascent lists, those of at most eleven elements counted one by one.
func TestAscents(t *testing.T) {
	want := []int64{1, 2, 5, 15, 53, 217, 1014, 5335, 31240, 201608, 1422074, 10886503, 89903100, 796713190}
	for i, w := range want {
		if k, e := shift.Ascents(i + 1); k != w || e != api.OK {
			t.Errorf("Ascents(%d): %d, %d, not %d", i+1, k, e, w)
		}
	}
	var count func(missing, last, ascents int) int64
	count = func(missing, last, ascents int) int64 {
		if missing == 0 {
			return 1
		}
		sum := int64(0)
		for x := 0; x <= ascents+1; x++ {
			if x > last {
				sum += count(missing-1, x, ascents+1)
			} else {
				sum += count(missing-1, x, ascents)
			}
		}
		return sum
	}
	for n := 1; n <= 11; n++ {
		if k, _ := shift.Ascents(n); k != count(n-1, 0, 0) {
			t.Errorf("Ascents(%d): %d", n, k)
		}
	}
	for _, n := range []int{0, -1, 15, 16, 1 << 32, 1<<32 + 1, -1<<32 + 1, math.MaxInt, math.MinInt} {
		if k, e := shift.Ascents(n); k != 0 || e != api.ErrArg {
			t.Errorf("Ascents(%d): %d, %d", n, k, e)
		}
	}
}

// P10.9: the ascent lists are as many as the orders without a two and two, each counted once.
func TestOrdersWithoutTwoTwo(t *testing.T) {
	kinds := []table{empty(1)}
	all := []int{1, 2, 5, 16, 63, 318}
	for n := 1; n <= 7; n++ {
		if n <= len(all) && len(kinds) != all[n-1] {
			t.Errorf("%d orders of %d elements", len(kinds), n)
		}
		count := int64(0)
		for _, p := range kinds {
			if _, e := shift.Intervals(p); e == api.OK {
				count++
			}
		}
		if k, e := shift.Ascents(n); k != count || e != api.OK {
			t.Errorf("Ascents(%d): %d, %d, but there are %d orders", n, k, e, count)
		}
		if n < 7 {
			kinds = larger(kinds)
		}
	}
}

// larger are all orders of one element more, each once: the new element is after a set that has with an element all before it.
func larger(kinds []table) []table {
	seen := map[string]bool{}
	var l []table
	for _, p := range kinds {
		for below := range 1 << len(p) {
			q := after(p, empty(1))
			for x := range p {
				q[x][len(p)] = below>>x&1 == 1
			}
			if !isOrder(q) {
				continue
			}
			if key := leastKey(q); !seen[key] {
				seen[key] = true
				l = append(l, q)
			}
		}
	}
	return l
}

// leastKey is the same for just those orders that become the same by renumbering: the least key with elements in order of how many are before and after them.
func leastKey(p table) string {
	n := len(p)
	size := make([]int, n)
	for x := range n {
		for y := range n {
			if p[y][x] {
				size[x] += 16
			}
			if p[x][y] {
				size[x]++
			}
		}
	}
	places := slices.Sorted(slices.Values(size))
	best := ""
	from, used := make([]int, n), make([]bool, n)
	var place func(i int)
	place = func(i int) {
		if i == n {
			key := make([]byte, 0, n*n)
			for _, x := range from {
				for _, y := range from {
					if p[x][y] {
						key = append(key, 1)
					} else {
						key = append(key, 0)
					}
				}
			}
			if s := string(key); best == "" || s < best {
				best = s
			}
			return
		}
		for x := range n {
			if !used[x] && size[x] == places[i] {
				from[i], used[x] = x, true
				place(i + 1)
				used[x] = false
			}
		}
	}
	place(0)
	return best
}
