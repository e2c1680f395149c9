package heat

import (
	"slices"
)

// A triple is three boats, rising.
type triple = [3]int

func areTripleBoats(n int) bool {
	return n >= minTriples && n <= maxTriples
}

// three is the triple of those boats.
func three(a, b, c int) triple {
	t := triple{a, b, c}
	slices.Sort(t[:])
	return t
}

func compare(a, b triple) int { return slices.Compare(a[:], b[:]) }

// inOrder has the triples of all lists in the order of lists.
func inOrder(lists ...[]triple) []triple {
	all := slices.Concat(lists...)
	slices.SortFunc(all, compare)
	return all
}

func isTriple(n int, t triple) bool {
	return 0 <= t[0] && t[0] < t[1] && t[1] < t[2] && t[2] < n
}

func areTriples(n int, l []triple) bool {
	met := meetings{}
	for i, t := range l {
		if !isTriple(n, t) || i > 0 && compare(l[i-1], t) >= 0 || !met.add(t[:]...) {
			return false
		}
	}
	return met.areAll(n)
}

// triples has three rings of boats and, if n leaves the rest 1 by 6, one more boat. Two boats of a ring are with their mean in the next one (Bose, Skolem).
func triples(n int) []triple {
	size := n / 3
	boat := func(x, ring int) int { return x + ring%3*size }
	var found []triple
	for x := range size {
		mean := meanOf(size, x, x)
		if mean == x {
			found = append(found, three(boat(x, 0), boat(x, 1), boat(x, 2)))
		}
		for ring := range 3 {
			if mean != x {
				found = append(found, three(boat(x, ring), boat(mean, ring+1), n-1))
			}
			for y := range x {
				found = append(found, three(boat(x, ring), boat(y, ring), boat(meanOf(size, x, y), ring+1)))
			}
		}
	}
	return found
}

// meanOf is half the sum of x and y modulo size. If size is even, odd sums have the halves that even ones leave over. So with the same x, no two y have the same mean.
func meanOf(size, x, y int) int {
	sum := (x + y) % size
	if sum%2 == 1 {
		sum += size
	}
	return sum / 2
}
