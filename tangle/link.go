package tangle

import (
	"iter"
	"maps"
	"slices"
)

// first is the first of the links that are the same as x.
func (x fraction) first() fraction {
	return fraction{x.p, min(x.q, inverse(x.q, x.p))}
}

// mirror is the mirror image of the link x.
func (x fraction) mirror() fraction {
	return fraction{x.p, rest(-x.q, x.p)}
}

// terms yields the terms of the link x.
func (x fraction) terms() iter.Seq[int64] {
	return func(yield func(int64) bool) {
		left := x
		for left.q != 0 {
			if !yield(left.p / left.q) {
				return
			}
			left = fraction{left.q, left.p % left.q}
		}
	}
}

// fromTerms returns the link with the terms l, if they are terms of one.
func fromTerms(l []int64) (fraction, bool) {
	if len(l) > 0 && l[len(l)-1] == 1 {
		return fraction{}, false
	}
	x := fraction{1, 0}
	for _, term := range slices.Backward(l) {
		// Written as a quotient, as the product may be outside the range of int64.
		if term < 1 || term > (maxLink-x.q)/x.p {
			return fraction{}, false
		}
		x = fraction{term*x.p + x.q, x.p}
	}
	return x, true
}

// firstLinks are the first ones of all links with that many crossings, in rising order.
func firstLinks(crossings int) []fraction {
	found := map[fraction]bool{}
	for list := range listsWithSum(crossings) {
		if x, ok := fromTerms(list); ok {
			found[x.first()] = true
		}
	}
	return slices.SortedFunc(maps.Keys(found), compareFractions)
}

// listsWithSum yields all lists of numbers greater than 0 that have the sum, from the greatest list to the least one. The list is the same one each time, changed.
func listsWithSum(sum int) iter.Seq[[]int64] {
	return func(yield func([]int64) bool) {
		var list []int64
		if sum > 0 {
			list = append(list, int64(sum))
		}
	search:
		for yield(list) {
			for at, number := range slices.Backward(list) {
				if number > 1 {
					// The next list ends with what is taken away here, and with the ones that came after.
					ones := len(list) - 1 - at
					list = append(list[:at], number-1, int64(1+ones))
					continue search
				}
			}
			return
		}
	}
}

// countKnots is the number that Ernst and Sumners found; it counts links whatever their p.
func countKnots(crossings int) int64 {
	triple := int64(1) << (crossings - 2)
	switch crossings % 4 {
	case 1:
		triple += 1 << ((crossings - 1) / 2)
	case 3:
		triple += 1<<((crossings-1)/2) + 2
	default:
		triple--
	}
	return triple / 3
}
