package score

import (
	"slices"
)

// line is a list of all boats, each of which beats the next one: a boat comes before the first one in the list that it beats, and all before that one have beaten it.
func (r regatta) line() []int {
	var line []int
	for v := range r.n {
		at := slices.IndexFunc(line, r.beats[v].has)
		if at < 0 {
			at = len(line)
		}
		line = slices.Insert(line, at, v)
	}
	return line
}

// A stretch is how far a ring has been laid: its last boat, and the boats that are left.
type stretch struct {
	last int
	left boats
}

// ring is a ring, if there is one. It begins with boat 0; a stretch that could not be completed is not tried again.
func (r regatta) ring() ([]int, bool) {
	failed := map[stretch]bool{}
	line := []int{0}
	var complete func(s stretch) bool
	complete = func(s stretch) bool {
		if s.left == 0 {
			return r.beats[s.last].has(0)
		}
		if failed[s] {
			return false
		}
		for next := range (r.beats[s.last] & s.left).each() {
			line = append(line, next)
			if complete(stretch{next, s.left &^ single(next)}) {
				return true
			}
			line = line[:len(line)-1]
		}
		failed[s] = true
		return false
	}
	if !complete(stretch{0, r.all() &^ single(0)}) {
		return nil, false
	}
	return line, true
}

// rank is the first list with the fewest upsets, and how many these are.
func (r regatta) rank() ([]int, int) {
	fewest := r.fewestUpsets()
	var order []int
fill:
	for left := r.all(); left != 0; {
		for v := range left.each() {
			rest := left &^ single(v)
			if r.upsets(v, rest)+fewest(rest) == fewest(left) {
				order = append(order, v)
				left = rest
				continue fill
			}
		}
	}
	return order, fewest(r.all())
}

// upsets is how many boats of rest, which come later, beat v.
func (r regatta) upsets(v int, rest boats) int {
	return (rest &^ r.beats[v]).size()
}

// fewestUpsets returns a function that finds the fewest upsets of lists of the boats of a set.
func (r regatta) fewestUpsets() func(left boats) int {
	known := map[boats]int{0: 0}
	var fewest func(left boats) int
	fewest = func(left boats) int {
		if count, ok := known[left]; ok {
			return count
		}
		// More than there are pairs of boats.
		least := r.n * r.n
		for v := range left.each() {
			rest := left &^ single(v)
			least = min(least, r.upsets(v, rest)+fewest(rest))
		}
		known[left] = least
		return least
	}
	return fewest
}
