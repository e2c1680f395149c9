package ferry

import (
	"iter"
	"math/bits"

	"forcola/api"
	"forcola/part"
)

// maxPassengers is the limit of passengers.
const maxPassengers = 10

// A group is a set of passengers: a word whose bits they are.
type group uint

// single is the group of v alone.
func single(v int) group { return 1 << v }

func (s group) size() int { return bits.OnesCount(uint(s)) }

// isWithin reports whether t has all passengers of s.
func (s group) isWithin(t group) bool { return s&^t == 0 }

// each yields the passengers of s, rising.
func (s group) each() iter.Seq[int] {
	return func(yield func(int) bool) {
		for rest := s; rest != 0; rest &= rest - 1 {
			if !yield(bits.TrailingZeros(uint(rest))) {
				return
			}
		}
	}
}

// groups yields all groups within s, rising.
func (s group) groups() iter.Seq[group] {
	return func(yield func(group) bool) {
		for t := group(0); yield(t) && t != s; {
			// That is one more than t with all bits outside s, which carry the one on to those of s.
			t = (t - s) & s
		}
	}
}

// Passengers have for each of them those that must not be alone with it.
type passengers struct {
	n    int
	foes [maxPassengers]group
}

// read returns the n passengers that have the edges, or the error that Check returns.
func read(n int, edges [][2]int) (passengers, api.Errno) {
	if e := part.Check(n, edges); e != api.OK {
		return passengers{}, e
	}
	if n > maxPassengers {
		return passengers{}, api.ErrLong
	}
	p := passengers{n: n}
	for _, edge := range edges {
		i, j := edge[0], edge[1]
		p.foes[i] |= single(j)
		p.foes[j] |= single(i)
	}
	return p, api.OK
}

// all is the group of all passengers.
func (p passengers) all() group { return single(p.n) - 1 }

// foesOf are the passengers that have an edge to one of s.
func (p passengers) foesOf(s group) group {
	found := group(0)
	for v := range s.each() {
		found |= p.foes[v]
	}
	return found
}

func (p passengers) isQuiet(s group) bool { return s&p.foesOf(s) == 0 }

// quietGroups yields the quiet groups within s that are not empty.
func (p passengers) quietGroups(s group) iter.Seq[group] {
	return func(yield func(group) bool) {
		for t := range s.groups() {
			if t != 0 && p.isQuiet(t) && !yield(t) {
				return
			}
		}
	}
}

// cover is the first of the covers with the fewest passengers: a group is a cover just if the others are quiet.
func (p passengers) cover() group {
	found := p.all()
	for s := range p.all().groups() {
		if s.size() < found.size() && p.isQuiet(p.all()&^s) {
			found = s
		}
	}
	return found
}
