package heat_test

import (
	"iter"
	"math/rand"
	"slices"
)

// What follows is slow and plain models of the chapter's definitions, to which the package is compared.

type rounds = [][][2]int

// isSchedule counts for each round and boat its matches, and for each two boats those of all rounds.
func isSchedule(n int, s rounds) bool {
	if len(s) != n-1 {
		return false
	}
	together := map[[2]int]int{}
	for _, round := range s {
		if len(round) != n/2 {
			return false
		}
		alone := map[int]int{}
		for _, m := range round {
			alone[m[0]]++
			alone[m[1]]++
			together[m]++
			together[[2]int{m[1], m[0]}]++
		}
		for boat := range n {
			if alone[boat] != 1 {
				return false
			}
		}
	}
	for i := range n {
		for j := range i {
			if together[[2]int{i, j}] != 1 {
				return false
			}
		}
	}
	return true
}

// foe is whom the boat meets in the round, and whether the boat is at home.
func foe(round [][2]int, boat int) (int, bool) {
	for _, m := range round {
		if m[0] == boat {
			return m[1], true
		}
		if m[1] == boat {
			return m[0], false
		}
	}
	return -1, false
}

func patterns(n int, s rounds) []string {
	l := make([]string, n)
	for boat := range n {
		for _, round := range s {
			if _, home := foe(round, boat); home {
				l[boat] += "H"
			} else {
				l[boat] += "A"
			}
		}
	}
	return l
}

func breaks(n int, s rounds) int {
	count := 0
	for boat := range n {
		for r := range len(s) - 1 {
			_, before := foe(s[r], boat)
			_, now := foe(s[r+1], boat)
			if before == now {
				count++
			}
		}
	}
	return count
}

// carry asks of all i and j how many boats there are.
func carry(n int, s rounds) [][]int {
	c := make([][]int, n)
	for i := range n {
		for j := range n {
			count := 0
			for boat := range n {
				if meetsInTurn(s, boat, i, j) {
					count++
				}
			}
			c[i] = append(c[i], count)
		}
	}
	return c
}

func meetsInTurn(s rounds, boat, i, j int) bool {
	for r := range s {
		next := r + 1
		if next == len(s) {
			next = 0
		}
		first, _ := foe(s[r], boat)
		second, _ := foe(s[next], boat)
		if first == i && second == j {
			return true
		}
	}
	return false
}

func isBalanced(c [][]int) bool {
	for i := range c {
		for j := range c[i] {
			if i != j && c[i][j] != 1 {
				return false
			}
		}
	}
	return true
}

// circle is what P9.1 says of Circle, number by number.
func circle(n int) rounds {
	modulo := func(x int) int { return ((x % (n - 1)) + n - 1) % (n - 1) }
	var s rounds
	for r := 0; r < n-1; r++ {
		round := [][2]int{{n - 1, r}}
		if r%2 != 0 {
			round[0] = [2]int{r, n - 1}
		}
		for k := 1; k <= n/2-1; k++ {
			a, b := modulo(r+k), modulo(r-k)
			if k%2 != 0 {
				round = append(round, [2]int{a, b})
			} else {
				round = append(round, [2]int{b, a})
			}
		}
		s = append(s, round)
	}
	return s
}

func swapped(s rounds) rounds {
	x := cloned(s)
	for r := range x {
		for i, m := range s[r] {
			x[r][i] = [2]int{m[1], m[0]}
		}
	}
	return x
}

// isSystem counts for each two boats the triples that they are together in.
func isSystem(n int, l [][3]int) bool {
	if n < 3 || n > 27 {
		return false
	}
	for i, t := range l {
		if t[0] >= t[1] || t[1] >= t[2] || t[0] < 0 || t[2] >= n || i > 0 && slices.Compare(l[i-1][:], t[:]) > 0 {
			return false
		}
	}
	for i := range n {
		for j := range i {
			count := 0
			for _, t := range l {
				if slices.Contains(t[:], i) && slices.Contains(t[:], j) {
					count++
				}
			}
			if count != 1 {
				return false
			}
		}
	}
	return true
}

// areDays counts for each day and boat its triples.
func areDays(n int, days [][][3]int) bool {
	for _, day := range days {
		for boat := range n {
			count := 0
			for _, t := range day {
				if slices.Contains(t[:], boat) {
					count++
				}
			}
			if count != 1 {
				return false
			}
		}
	}
	return isSystem(n, sorted(slices.Concat(days...)))
}

func sorted(l [][3]int) [][3]int {
	return slices.SortedFunc(slices.Values(l), func(a, b [3]int) int { return slices.Compare(a[:], b[:]) })
}

// cloned is a new list of new lists.
func cloned[T any](lists [][]T) [][]T {
	var l [][]T
	for _, x := range lists {
		l = append(l, slices.Clone(x))
	}
	return l
}

func same[T comparable](a, b [][]T) bool {
	return slices.EqualFunc(a, b, slices.Equal[[]T])
}

// shuffled is the same schedule but for the boats' numbers, the order of rounds and matches, and who is at home.
func shuffled(r *rand.Rand, n int, s rounds) rounds {
	x := cloned(s)
	order := r.Perm(n)
	for _, round := range x {
		for i, m := range round {
			a, b := order[m[0]], order[m[1]]
			if r.Intn(2) == 0 {
				a, b = b, a
			}
			round[i] = [2]int{a, b}
		}
		r.Shuffle(len(round), func(i, j int) { round[i], round[j] = round[j], round[i] })
	}
	r.Shuffle(len(x), func(i, j int) { x[i], x[j] = x[j], x[i] })
	return x
}

// someSchedules yields shuffled ones, so many of each number of boats.
func someSchedules(seed int64, count int) iter.Seq2[int, rounds] {
	return func(yield func(int, rounds) bool) {
		r := rand.New(rand.NewSource(seed))
		for n := 2; n <= 16; n += 2 {
			for range count {
				if !yield(n, shuffled(r, n, circle(n))) {
					return
				}
			}
		}
	}
}

// allOfFour yields all schedules of four boats.
func allOfFour() iter.Seq[rounds] {
	return func(yield func(rounds) bool) {
		for s := range allPairsOfFour() {
			if !isSchedule(4, s) {
				continue
			}
			for homes := range 1 << 6 {
				x := cloned(s)
				for i := range 6 {
					if homes>>i&1 == 1 {
						m := &x[i/2][i%2]
						m[0], m[1] = m[1], m[0]
					}
				}
				if !yield(x) {
					return
				}
			}
		}
	}
}

// allPairsOfFour yields all lists of three rounds of two matches, with the same boat at home whenever two meet.
func allPairsOfFour() iter.Seq[rounds] {
	return func(yield func(rounds) bool) {
		pairs := [][2]int{{0, 1}, {3, 2}, {2, 0}, {1, 3}, {0, 3}, {2, 1}}
		for number := range 6 * 6 * 6 * 6 * 6 * 6 {
			s := make(rounds, 3)
			for r := range s {
				s[r] = [][2]int{pairs[number%6], pairs[number/6%6]}
				number /= 36
			}
			if !yield(s) {
				return
			}
		}
	}
}

// renumbered are the triples in which boat i is order[i], each of them rising.
func renumbered(order []int, l [][3]int) [][3]int {
	var x [][3]int
	for _, t := range l {
		y := [3]int{order[t[0]], order[t[1]], order[t[2]]}
		slices.Sort(y[:])
		x = append(x, y)
	}
	return x
}

// ofTwo are the triples a, b, a + b of the numbers that are not 0, sums being those of bits without carry; 0 is left out, and 1 is boat 0.
func ofTwo(n int) [][3]int {
	var l [][3]int
	for a := 1; a <= n; a++ {
		for b := a + 1; b <= n; b++ {
			if c := a ^ b; c > b {
				l = append(l, [3]int{a - 1, b - 1, c - 1})
			}
		}
	}
	return l
}

// allThrees yields all triples of n boats, rising.
func allThrees(n int) [][3]int {
	var l [][3]int
	for c := range n {
		for b := range c {
			for a := range b {
				l = append(l, [3]int{a, b, c})
			}
		}
	}
	return sorted(l)
}
