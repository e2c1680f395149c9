package heat

import (
	"slices"
)

const (
	// turning is how many boats have days by turns: two rings of seven, and the last boat, which stays.
	turning  = 15
	ringSize = 7
)

func areDays(n int, days [][]triple) bool {
	// Each boat meets two others on a day, so there are not more days, and a list that is much longer is not read.
	if 2*len(days) != n-1 {
		return false
	}
	for _, day := range days {
		if 3*len(day) != n || !areApart(n, day) {
			return false
		}
	}
	return areTriples(n, inOrder(days...))
}

// areApart reports whether no boat is in two of the triples.
func areApart(n int, day []triple) bool {
	var seen marks
	for _, t := range day {
		if !seen.add(n, t[:]...) {
			return false
		}
	}
	return true
}

// directions are days for a power of 3: boats are the points of a space over three elements, and a day has the lines of one direction.
func directions(n int) [][]triple {
	var days [][]triple
	for d := 1; d < n; d++ {
		if back := plus(d, d); d < back {
			days = append(days, lines(n, d, back))
		}
	}
	return days
}

// lines are those that go on by d, and on by back to where they began.
func lines(n, d, back int) []triple {
	var day []triple
	for a := range n {
		if b, c := plus(a, d), plus(a, back); a < b && a < c {
			day = append(day, three(a, b, c))
		}
	}
	return day
}

// plus is the sum of points whose coordinates are digits by 3.
func plus(a, b int) int {
	sum := 0
	for unit := 1; unit < maxTriples; unit *= 3 {
		sum += (a/unit + b/unit) % 3 * unit
	}
	return sum
}

// turns are the days that come from the first one as both rings turn.
func turns(first []triple) [][]triple {
	var days [][]triple
	for by := range ringSize {
		var day []triple
		for _, t := range first {
			day = append(day, three(turned(t[0], by), turned(t[1], by), turned(t[2], by)))
		}
		days = append(days, day)
	}
	return days
}

func turned(boat, by int) int {
	if boat == turning-1 {
		return boat
	}
	return boat/ringSize*ringSize + (boat+by)%ringSize
}

// A kind of pairs is one of them and all that it becomes as the rings turn.
type kind struct{ from, to, turn int }

// kindOf is the kind of a and b, a being less. In one ring they may as well be the other way round.
func kindOf(a, b int) kind {
	k := kind{a / ringSize, b / ringSize, (b - a) % ringSize}
	switch {
	case b == turning-1:
		k.turn = 0
	case k.from == k.to:
		k.turn = min(k.turn, ringSize-k.turn)
	}
	return k
}

// firstDay searches for a day in which no kind of pairs comes twice: so no pair comes twice in its turns.
func firstDay() []triple {
	all := allTriples(turning)
	var day []triple
	next := 0
search:
	for {
		for ; next < len(all); next++ {
			longer := append(day, all[next])
			if !areApart(turning, longer) || !areOfOtherKinds(longer) {
				continue
			}
			day = longer
			if len(day) == turning/3 {
				break search
			}
		}
		last := len(day) - 1
		next = slices.Index(all, day[last]) + 1
		day = day[:last]
	}
	return day
}

// areOfOtherKinds reports whether no two pairs are of one kind.
func areOfOtherKinds(day []triple) bool {
	kinds := map[kind]bool{}
	for _, t := range day {
		for _, k := range []kind{kindOf(t[0], t[1]), kindOf(t[0], t[2]), kindOf(t[1], t[2])} {
			if kinds[k] {
				return false
			}
			kinds[k] = true
		}
	}
	return true
}

// allTriples are those of n boats, in order.
func allTriples(n int) []triple {
	var all []triple
	for a := range n {
		for b := a + 1; b < n; b++ {
			for c := b + 1; c < n; c++ {
				all = append(all, triple{a, b, c})
			}
		}
	}
	return all
}
