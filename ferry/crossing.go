package ferry

import (
	"slices"
)

// A stand is how all are between two trips: who is on the left bank, and whether the boat is on the right one.
type stand struct {
	left  group
	right bool
}

func (p passengers) start() stand { return stand{left: p.all()} }

// across is how all are after a plan.
func (p passengers) across() stand { return stand{right: true} }

// shores are the bank from which the boat leaves, and the other one.
func (p passengers) shores(at stand) (group, group) {
	rest := p.all() &^ at.left
	if at.right {
		return rest, at.left
	}
	return at.left, rest
}

// boat returns what is tried for each trip: how all are after it, and whether it may be.
func (p passengers) boat(seats int) func(at stand, taken group) (stand, bool) {
	quiet := p.isQuiet
	return func(at stand, taken group) (stand, bool) {
		here, there := p.shores(at)
		if taken.size() > seats || !taken.isWithin(here) || !quiet(here&^taken) || !quiet(there) {
			return stand{}, false
		}
		return stand{at.left ^ taken, !at.right}, true
	}
}

// plan goes from the start to all that can be reached, trip by trip, until all passengers are across.
func (p passengers) plan(seats int) ([]int, bool) {
	sail := p.boat(seats)
	before := map[stand]stand{p.start(): p.start()}
	for queue := []stand{p.start()}; len(queue) > 0; queue = queue[1:] {
		at := queue[0]
		here, _ := p.shores(at)
		for taken := range here.groups() {
			next, ok := sail(at, taken)
			if !ok {
				continue
			}
			if _, known := before[next]; known {
				continue
			}
			before[next] = at
			if next == p.across() {
				return trips(before, next), true
			}
			queue = append(queue, next)
		}
	}
	return nil, false
}

// trips are those that lead to at from the start, which alone comes before itself.
func trips(before map[stand]stand, at stand) []int {
	var taken []int
	for before[at] != at {
		last := before[at]
		taken = append(taken, int(last.left^at.left))
		at = last
	}
	slices.Reverse(taken)
	return taken
}

func (p passengers) isPlan(seats int, plan []int) bool {
	sail := p.boat(seats)
	at := p.start()
	for _, taken := range plan {
		next, ok := sail(at, group(taken))
		if !ok {
			return false
		}
		at = next
	}
	return at == p.across()
}

// least is the least number of seats for which there is a plan: a boat for all of them needs no more than one trip.
func (p passengers) least() int {
	for seats := range p.n {
		if _, ok := p.plan(seats); ok {
			return seats
		}
	}
	return p.n
}
