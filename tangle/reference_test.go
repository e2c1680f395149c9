package tangle_test

import (
	"iter"
	"math"
	"math/big"
	"math/rand"
	"slices"
)

// What follows is slow and plain models of the chapter's definitions, to which the package is compared.

const maxOnTheWay = 1_000_000_000_000_000

// extremes are numbers at the ends of int64, and others that no range of the chapter has.
var extremes = []int64{math.MinInt64, math.MinInt64 + 1, -1 << 32, 1 << 32, math.MaxInt64 - 1, math.MaxInt64}

// A pair is a fraction's or a link's two numbers.
type pair [2]int64

// divisor is the greatest common divisor.
func divisor(a, b int64) int64 {
	return new(big.Int).GCD(nil, nil, new(big.Int).Abs(big.NewInt(a)), new(big.Int).Abs(big.NewInt(b))).Int64()
}

// isFraction says of two numbers what the definition says.
func isFraction(x pair) bool {
	return x[1] >= 0 && divisor(x[0], x[1]) == 1 && (x[1] != 0 || x[0] == 1) && (x[0] != 0 || x[1] == 1)
}

// isLink says of two numbers what the definition says.
func isLink(x pair) bool {
	return x[0] >= 1 && x[0] <= 1_000_000 && x[1] >= 0 && x[1] <= x[0]-1 && divisor(x[0], x[1]) == 1
}

// fractionsUpTo yields all fractions whose numbers are at most most in absolute value.
func fractionsUpTo(most int64) iter.Seq[pair] {
	return func(yield func(pair) bool) {
		for p := -most; p <= most; p++ {
			for q := range most + 1 {
				if x := (pair{p, q}); isFraction(x) && !yield(x) {
					return
				}
			}
		}
	}
}

// linksUpTo yields all links whose p is at most most.
func linksUpTo(most int64) iter.Seq[pair] {
	return func(yield func(pair) bool) {
		for p := int64(1); p <= most; p++ {
			for q := range p {
				if x := (pair{p, q}); isLink(x) && !yield(x) {
					return
				}
			}
		}
	}
}

// someFraction is a random fraction whose numbers are at most most in absolute value.
func someFraction(r *rand.Rand, most int64) pair {
	for {
		if x := (pair{r.Int63n(2*most+1) - most, r.Int63n(most + 1)}); isFraction(x) {
			return x
		}
	}
}

// someLink is a random link whose p is at most most.
func someLink(r *rand.Rand, most int64) pair {
	for {
		p := 1 + r.Int63n(most)
		if x := (pair{p, r.Int63n(p)}); isLink(x) {
			return x
		}
	}
}

// A number is rational, or infinite if it is nil.
type number = *big.Rat

// pairOf are the numbers of the fraction.
func pairOf(x number) pair {
	if x == nil {
		return pair{1, 0}
	}
	return pair{x.Num().Int64(), x.Denom().Int64()}
}

// isLarge reports whether a number of the fraction is more than 10^15.
func isLarge(x number) bool {
	most := big.NewInt(maxOnTheWay)
	return x != nil && (x.Num().CmpAbs(most) > 0 || x.Denom().CmpAbs(most) > 0)
}

// after is what the letter makes of x.
func after(x number, letter byte) number {
	switch {
	case letter == 'r' && x == nil:
		return new(big.Rat)
	case letter == 'r' && x.Sign() == 0:
		return nil
	case letter == 'r':
		return new(big.Rat).Neg(new(big.Rat).Inv(x))
	case x == nil:
		return nil
	case letter == 't':
		return new(big.Rat).Add(x, big.NewRat(1, 1))
	}
	return new(big.Rat).Sub(x, big.NewRat(1, 1))
}

// valueOf is the value of the word, and whether a number on the way is more than 10^15.
func valueOf(word string) (pair, bool) {
	x, large := new(big.Rat), false
	for i := range len(word) {
		x = after(x, word[i])
		large = large || isLarge(x)
	}
	if large {
		return pair{}, true
	}
	return pairOf(x), false
}

// isWord says of a string what the definition says.
func isWord(s string) bool {
	for i := range len(s) {
		if s[i] != 't' && s[i] != 'T' && s[i] != 'r' {
			return false
		}
	}
	return len(s) <= 2000
}

// back is the word that takes the steps of word back.
func back(word string) string {
	var l []byte
	for i := range len(word) {
		l = append(l, map[byte]byte{'t': 'T', 'T': 't', 'r': 'r'}[word[len(word)-1-i]])
	}
	return string(l)
}

// someWord is a random word, in which the same letter mostly follows where runs is great.
func someWord(r *rand.Rand, length, runs int) string {
	l := make([]byte, length)
	for i := range l {
		l[i] = "tTr"[r.Intn(3)]
		if i > 0 && r.Intn(runs) > 0 {
			l[i] = l[i-1]
		}
	}
	return string(l)
}

// pathTo is a word for p, q, greater than 0, whose numbers on the way are at most those, found by whole parts.
func pathTo(p, q int64) string {
	var down []byte
	for p != 0 {
		for p >= q {
			p -= q
			down = append(down, 'T')
		}
		if p == 0 {
			break
		}
		// -q / p, which becomes the rest below 0 and again something above 0.
		p, q = -q, p
		down = append(down, 'r')
		for p <= -q {
			p += q
			down = append(down, 't')
		}
		if p != 0 {
			p, q = q, -p
			down = append(down, 'r')
		}
	}
	return back(string(down))
}

// areSame says of two links what the definition says.
func areSame(x, y pair) bool {
	return x[0] == y[0] && (x[1] == y[1] || x[1]*y[1]%x[0] == 1 || x[0] == 1)
}

// firstOf is the first of the same links, found by trying all.
func firstOf(x pair) pair {
	for q := range x[0] {
		if y := (pair{x[0], q}); areSame(x, y) && isLink(y) {
			return y
		}
	}
	return pair{}
}

// mirrorOf is the mirror image.
func mirrorOf(x pair) pair {
	if x[0] == 1 {
		return x
	}
	return pair{x[0], x[0] - x[1]}
}

// linkOf is the link with the terms: of a1, .., ak, p / q is a1 + 1 / (a2 + ..). It is none if p is too great.
func linkOf(l []int64) pair {
	if len(l) == 0 {
		return pair{1, 0}
	}
	x := new(big.Rat).SetInt64(l[len(l)-1])
	for i := len(l) - 2; i >= 0; i-- {
		x.Add(new(big.Rat).SetInt64(l[i]), x.Inv(x))
	}
	if !x.Num().IsInt64() {
		return pair{}
	}
	return pairOf(x)
}

// areTerms reports whether the numbers are terms of a link with any p.
func areTerms(l []int64) bool {
	for _, a := range l {
		if a < 1 {
			return false
		}
	}
	return len(l) == 0 || l[len(l)-1] > 1
}

// withSum yields the terms of all links, with any p, that have that sum.
func withSum(sum int64) iter.Seq[[]int64] {
	return func(yield func([]int64) bool) {
		var extend func(l []int64, left int64) bool
		extend = func(l []int64, left int64) bool {
			if left == 0 {
				return !areTerms(l) || yield(slices.Clone(l))
			}
			for a := int64(1); a <= left; a++ {
				if !extend(append(slices.Clone(l), a), left-a) {
					return false
				}
			}
			return true
		}
		extend(nil, sum)
	}
}

// sumOf is the sum of the numbers.
func sumOf(l []int64) int64 {
	sum := int64(0)
	for _, a := range l {
		sum += a
	}
	return sum
}

// beside are integers u and v such that s u - r v is 1, which are found by trying; turns tells which ones.
func beside(y pair, turns int64) (u, v int64) {
	r, s := y[0], y[1]
	for v := -s; v <= s; v++ {
		if s > 0 && (1+r*v)%s == 0 {
			return (1+r*v)/s + turns*r, v + turns*s
		}
	}
	// s is 0, and r is 1.
	return turns, -1
}

// closingOf is the closing by the definition with some u and v, and whether there is one.
func closingOf(x, y pair, turns int64) (pair, bool) {
	n := x[0]*y[1] + x[1]*y[0]
	u, v := beside(y, turns)
	m := x[0]*v + x[1]*u
	if n == 0 {
		return pair{}, false
	}
	if n < 0 {
		n, m = -n, -m
	}
	for m < 0 {
		m += n
	}
	return firstOf(pair{n, m % n}), true
}
