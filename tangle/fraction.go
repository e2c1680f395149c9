package tangle

import (
	"cmp"

	"forcola/api"
)

// A fraction is p / q; 1 / 0 is infinite. A link p, q is a fraction, too.
type fraction struct{ p, q int64 }

var zero = fraction{0, 1}

// fractions are those with the numbers, two for each, or ErrRatio.
func fractions(numbers ...int64) ([]fraction, api.Errno) {
	return pair(fraction.isFraction, numbers)
}

// links are those with the numbers, two for each, or ErrRatio.
func links(numbers ...int64) ([]fraction, api.Errno) {
	return pair(fraction.isLink, numbers)
}

// pair returns the fractions with the numbers, or ErrRatio if one of them is not right.
func pair(isRight func(x fraction) bool, numbers []int64) ([]fraction, api.Errno) {
	var list []fraction
	for at := 1; at < len(numbers); at += 2 {
		x := fraction{numbers[at-1], numbers[at]}
		if !isRight(x) {
			return nil, api.ErrRatio
		}
		list = append(list, x)
	}
	return list, api.OK
}

// isFraction reports whether p and q have no common divisor greater than 1, and the signs are right.
func (x fraction) isFraction() bool {
	if x.q == 0 {
		return x.p == 1
	}
	divisor, left := x.p, x.q
	for left != 0 {
		divisor, left = left, divisor%left
	}
	return x.q > 0 && (divisor == 1 || divisor == -1)
}

func (x fraction) isLink() bool {
	return x.q < x.p && x.p <= maxLink && x.isFraction()
}

// isWithin reports whether no number is more than most in absolute value.
func (x fraction) isWithin(most int64) bool {
	return -most <= x.p && x.p <= most && x.q <= most
}

// closing is the closing of x and y, if there is one.
func closing(x, y fraction) (fraction, bool) {
	n := x.p*y.q + x.q*y.p
	if n == 0 {
		return fraction{}, false
	}
	u, v := y.neighbour()
	m := x.p*v + x.q*u
	if n < 0 {
		n, m = -n, -m
	}
	return fraction{n, rest(m, n)}.first(), true
}

// neighbour returns u and v such that q u - p v is 1.
func (x fraction) neighbour() (u, v int64) {
	if x.q == 0 {
		return 0, -1
	}
	v = -inverse(rest(x.p, x.q), x.q)
	return (1 + x.p*v) / x.q, v
}

// rest is the number from 0 to n - 1 that a leaves by n.
func rest(a, n int64) int64 { return (a%n + n) % n }

// inverse is the number from 0 to n - 1 whose product with a leaves the rest 1 by n. They have no common divisor greater than 1, and a is from 0 to n - 1.
func inverse(a, n int64) int64 {
	// The product of a and factor leaves the same rest as left, that of a and nextFactor the same as next.
	left, next := a, n
	factor, nextFactor := int64(1), int64(0)
	for next != 0 {
		times := left / next
		left, next = next, left-times*next
		factor, nextFactor = nextFactor, factor-times*nextFactor
	}
	return rest(factor, n)
}

func compareFractions(a, b fraction) int {
	return cmp.Or(cmp.Compare(a.p, b.p), cmp.Compare(a.q, b.q))
}
