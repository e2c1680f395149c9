package shift

import (
	"iter"
	"math/bits"

	"forcola/api"
)

// A set is a set of elements: a word whose bits they are.
type set uint16

// single is the set of x alone.
func single(x int) set { return 1 << x }

func (s set) has(x int) bool { return s>>x&1 == 1 }

func (s set) size() int { return bits.OnesCount16(uint16(s)) }

// first is the least element of s, which has one.
func (s set) first() int { return bits.TrailingZeros16(uint16(s)) }

// isWithin reports whether t has all elements of s.
func (s set) isWithin(t set) bool { return s&^t == 0 }

// each yields the elements of s, rising.
func (s set) each() iter.Seq[int] {
	return func(yield func(int) bool) {
		for rest := s; rest != 0; rest &= rest - 1 {
			if !yield(rest.first()) {
				return
			}
		}
	}
}

// An order has for each of its n elements the set of all before it, and of all after it.
type order struct {
	n             int
	before, after [maxElements]set
}

// read returns the order of the table, or the error that Check returns.
func read(p [][]bool) (order, api.Errno) {
	if len(p) < 1 || len(p) > maxElements {
		return order{}, api.ErrOrder
	}
	o := order{n: len(p)}
	for x, row := range p {
		if len(row) != o.n {
			return order{}, api.ErrOrder
		}
		for y, isBefore := range row {
			if isBefore {
				o.put(x, y)
			}
		}
	}
	if !o.isOrder() {
		return order{}, api.ErrOrder
	}
	return o, api.OK
}

// put notes that x is before y.
func (o *order) put(x, y int) {
	o.before[y] |= single(x)
	o.after[x] |= single(y)
}

// isOrder reports whether no element is before itself, and all before an element have with them all before these.
func (o order) isOrder() bool {
	for y := range o.n {
		if o.before[y].has(y) {
			return false
		}
		for x := range o.before[y].each() {
			if !o.before[x].isWithin(o.before[y]) {
				return false
			}
		}
	}
	return true
}

// table is the order as a table; each row has its own memory.
func (o order) table() [][]bool {
	p := make([][]bool, o.n)
	for x := range p {
		p[x] = make([]bool, o.n)
		for y := range o.after[x].each() {
			p[x][y] = true
		}
	}
	return p
}

// all is the set of all elements.
func (o order) all() set { return single(o.n) - 1 }

// isElement reports whether x is the number of an element.
func (o order) isElement(x int) bool { return x >= 0 && x < o.n }

// isBefore reports whether x is before y, both elements.
func (o order) isBefore(x, y int) bool { return o.before[y].has(x) }

// overlapping is the set of all that overlaps x.
func (o order) overlapping(x int) set {
	return o.all() &^ (o.before[x] | o.after[x] | single(x))
}

// overlaps yields each two elements that overlap, in both directions.
func (o order) overlaps() iter.Seq2[int, int] {
	return func(yield func(int, int) bool) {
		for x := range o.n {
			for y := range o.overlapping(x).each() {
				if !yield(x, y) {
					return
				}
			}
		}
	}
}
