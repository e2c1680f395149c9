package shift

import (
	"cmp"
	"maps"
	"slices"
)

// sets are the different sets of all before an element, by their size.
func (o order) sets() []set {
	seen := map[set]bool{}
	for x := range o.n {
		seen[o.before[x]] = true
	}
	return slices.SortedFunc(maps.Keys(seen), func(s, t set) int {
		return cmp.Or(cmp.Compare(s.size(), t.size()), cmp.Compare(s, t))
	})
}

// hasIntervals reports whether intervals represent the order.
func (o order) hasIntervals() bool {
	_, found := o.twoTwo()
	return !found
}

// lefts are for each element the number of the set of all before it.
func (o order) lefts() []int {
	sets := o.sets()
	l := make([]int, o.n)
	for x := range l {
		l[x] = slices.Index(sets, o.before[x])
	}
	return l
}

// intervals are the canonical intervals.
func (o order) intervals() [][2]int {
	sets := o.sets()
	l := make([][2]int, o.n)
	for x, left := range o.lefts() {
		right := left
		for i, s := range sets {
			if !s.has(x) {
				right = i
			}
		}
		l[x] = [2]int{left, right}
	}
	return l
}

// hasPositions reports whether positions and a width represent the order.
func (o order) hasPositions() bool {
	_, found := o.threeOne()
	return !found && o.hasIntervals()
}

// A length is the least by which the position of one element is more than that of another one.
type length struct{ from, to, least int }

// lengths are what positions of that width have to keep.
func (o order) lengths(width int) []length {
	var l []length
	for x := range o.n {
		for y := range o.after[x].each() {
			l = append(l, length{x, y, width + 1})
		}
	}
	for x, y := range o.overlaps() {
		l = append(l, length{x, y, -width})
	}
	return l
}

// positions are the least positions from 0 on of that width, at least n, of an order that has positions.
// In it every ring of lengths has more overlaps than elements before others (as positions and a width show by their sum), so with n as the width it does not add up to more than 0: the adjustment ends.
func (o order) positions(width int) []int {
	lengths := o.lengths(width)
	l := make([]int, o.n)
adjust:
	for {
		for _, a := range lengths {
			if least := l[a.from] + a.least; l[a.to] < least {
				l[a.to] = least
				continue adjust
			}
		}
		return l
	}
}

// isRepresented reports whether positions and width represent the order.
func (o order) isRepresented(positions []int, width int) bool {
	if len(positions) != o.n || width < 0 {
		return false
	}
	for x, from := range positions {
		for y, to := range positions {
			if isMore(to, from, width) != o.isBefore(x, y) {
				return false
			}
		}
	}
	return true
}

// isMore reports whether a is more than the sum of b and width, which is at least 0. That sum may be out of range, but a difference above 0 is in that of uint.
func isMore(a, b, width int) bool {
	return a > b && uint(a)-uint(b) > uint(width)
}

// A place is what an element has before and after it.
type place struct{ before, after set }

func (o order) place(x int) place { return place{o.before[x], o.after[x]} }

// hasLevels reports whether levels represent the order: two elements that overlap are on one level then, so all the others are before both, after both or overlap both.
func (o order) hasLevels() bool {
	for x, y := range o.overlaps() {
		if o.place(x) != o.place(y) {
			return false
		}
	}
	return true
}
