package shift

import (
	"cmp"
	"slices"

	"forcola/api"
)

// A span is an interval: all numbers from left to right.
type span struct{ left, right int }

func (s span) has(x int) bool { return s.left <= x && x <= s.right }

type spans []span

// readIntervals returns the intervals, or the error that FromIntervals and Boats return.
func readIntervals(l [][2]int) (spans, api.Errno) {
	if len(l) > maxElements {
		return nil, api.ErrLong
	}
	if len(l) == 0 {
		return nil, api.ErrArg
	}
	s := make(spans, len(l))
	for i, x := range l {
		if x[0] > x[1] {
			return nil, api.ErrArg
		}
		s[i] = span{x[0], x[1]}
	}
	return s, api.OK
}

// order is the order that the intervals represent.
func (s spans) order() order {
	o := order{n: len(s)}
	for x, a := range s {
		for y, b := range s {
			if a.right < b.left {
				o.put(x, y)
			}
		}
	}
	return o
}

// peak is the least peak. Only at the left of an interval are there more intervals than at the number before.
func (s spans) peak() int {
	best, most := 0, 0
	for _, a := range s {
		count := s.countAt(a.left)
		if count > most || count == most && a.left < best {
			best, most = a.left, count
		}
	}
	return best
}

// countAt is how many intervals contain x.
func (s spans) countAt(x int) int {
	count := 0
	for _, a := range s {
		if a.has(x) {
			count++
		}
	}
	return count
}

// boats are boats for the intervals, as few as possible: an interval gets a new one only if all the others have an interval that contains its left.
func (s spans) boats() []int {
	boats := make([]int, len(s))
	var ends []int
	for _, i := range s.byLeft() {
		free := slices.IndexFunc(ends, func(end int) bool { return end < s[i].left })
		if free < 0 {
			free = len(ends)
			ends = append(ends, 0)
		}
		ends[free] = s[i].right
		boats[i] = free
	}
	return boats
}

// byLeft are the numbers of the intervals, by their left.
func (s spans) byLeft() []int {
	l := make([]int, len(s))
	for i := range l {
		l[i] = i
	}
	slices.SortFunc(l, func(i, j int) int {
		return cmp.Or(cmp.Compare(s[i].left, s[j].left), cmp.Compare(i, j))
	})
	return l
}
