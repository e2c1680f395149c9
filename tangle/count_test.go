package tangle_test

import (
	"math"
	"slices"
	"testing"

	"forcola/api"
	"forcola/tangle"
)

// P6.4: links with few crossings, by hand.
func TestSomeCounts(t *testing.T) {
	for n, want := range [][][2]int64{{{1, 0}}, nil, {{2, 1}}, {{3, 1}, {3, 2}}, {{4, 1}, {4, 3}, {5, 2}}, {{5, 1}, {5, 4}, {7, 2}, {7, 3}, {8, 3}, {8, 5}}} {
		if l, e := tangle.Links(n); !slices.Equal(l, want) || e != api.OK {
			t.Errorf("Links of %d: %v, %d", n, l, e)
		}
	}
	for n, want := range map[int]int64{3: 2, 4: 1, 5: 4, 6: 5, 7: 14, 8: 21, 9: 48, 10: 85, 40: 91625968981} {
		if count, e := tangle.Knots(n); count != want || e != api.OK {
			t.Errorf("Knots of %d: %d, %d", n, count, e)
		}
	}
}

// P6.4: the crossings that are listed, and those that are counted.
func TestCrossingsInRange(t *testing.T) {
	for _, n := range []int{math.MinInt, math.MinInt32, -3, -1, 15, 16, 40, 41, 64, 1 << 20, math.MaxInt} {
		if l, e := tangle.Links(n); len(l) != 0 || e != api.ErrArg {
			t.Errorf("Links of %d: %v, %d", n, l, e)
		}
	}
	for _, n := range []int{math.MinInt, -40, -1, 0, 1, 2, 41, 42, 63, 64, 1 << 20, math.MaxInt} {
		if count, e := tangle.Knots(n); count != 0 || e != api.ErrArg {
			t.Errorf("Knots of %d: %d, %d", n, count, e)
		}
	}
	for n := range 41 {
		if _, e := tangle.Links(n); (e == api.OK) != (n <= 14) {
			t.Errorf("Links of %d: %d", n, e)
		}
		if _, e := tangle.Knots(n); (e == api.OK) != (n >= 3) {
			t.Errorf("Knots of %d: %d", n, e)
		}
	}
}

// P6.4, P6.8: all links of at most fourteen crossings are found among those with a p of at most 610, and once more from their terms; those of one part are the knots.
func TestLinks(t *testing.T) {
	found := make([][][2]int64, 15)
	for x := range linksUpTo(700) {
		n, _ := tangle.Crossings(x[0], x[1])
		if n <= 14 && firstOf(x) == x {
			found[n] = append(found[n], x)
		}
	}
	for n, want := range found {
		l, e := tangle.Links(n)
		if !slices.Equal(l, want) || e != api.OK {
			t.Errorf("Links of %d: %v, %d, not %v", n, l, e, want)
		}
		fromTerms := map[pair]bool{}
		for terms := range withSum(int64(n)) {
			fromTerms[firstOf(linkOf(terms))] = true
		}
		knots := int64(0)
		for _, x := range l {
			if !fromTerms[x] {
				t.Errorf("Links of %d: %v", n, x)
			}
			knots += x[0] % 2
		}
		if len(fromTerms) != len(l) {
			t.Errorf("Links of %d: %d, not %d", n, len(l), len(fromTerms))
		}
		if count, e := tangle.Knots(n); n >= 3 && (count != knots || e != api.OK) {
			t.Errorf("Knots of %d: %d, %d, not %d", n, count, e, knots)
		}
	}
}

// parities count lists by whether the last p and the p before it are odd, and whether the length is.
type parities [2][2][2]int64

// extended are the lists with one more number, which is a.
func (c parities) extended(a int64) parities {
	var more parities
	for p := range 2 {
		for before := range 2 {
			for length := range 2 {
				more[(int(a)*p+before)%2][p][1-length] += c[p][before][length]
			}
		}
	}
	return more
}

func (c *parities) add(other parities) {
	for p := range 2 {
		for before := range 2 {
			for length := range 2 {
				c[p][before][length] += other[p][before][length]
			}
		}
	}
}

// bySum are the lists of numbers greater than 0 with each sum.
func bySum(most int) []parities {
	var start parities
	start[1][0][0] = 1
	l := []parities{start}
	for sum := 1; sum <= most; sum++ {
		var c parities
		for a := 1; a <= sum; a++ {
			c.add(l[sum-a].extended(int64(a)))
		}
		l = append(l, c)
	}
	return l
}

// palindromes is how many lists of an odd length with that sum are the same from behind, with an odd p. Such a list is a half, a number, and the half from behind. With p and p' of the half and the number a, p of the whole is a p p + 2 p p', which is odd just if a and p are.
func palindromes(halves []parities, sum int) int64 {
	count := int64(0)
	for a := 1; a <= sum; a += 2 {
		if (sum-a)%2 > 0 {
			continue
		}
		half := halves[(sum-a)/2]
		for before := range 2 {
			for length := range 2 {
				count += half[1][before][length]
			}
		}
	}
	return count
}

// P6.4, P6.8: Knots, counted once more. A link has one list of numbers of an odd length, the last of which may be 1; from behind it is the list of the link with the other q. So the same links are two lists, or one that is the same from behind.
func TestErnstSumners(t *testing.T) {
	lists := bySum(40)
	for n := 3; n <= 40; n++ {
		odd := lists[n][1][0][1] + lists[n][1][1][1]
		want := (odd + palindromes(lists, n)) / 2
		if count, e := tangle.Knots(n); count != want || e != api.OK {
			t.Errorf("Knots of %d: %d, %d, not %d", n, count, e, want)
		}
		triple := int64(1) << (n - 2)
		switch {
		case n%2 == 0:
			triple--
		case n%4 == 1:
			triple += 1 << ((n - 1) / 2)
		default:
			triple += 1<<((n-1)/2) + 2
		}
		if count, _ := tangle.Knots(n); 3*count != triple {
			t.Errorf("Knots of %d: %d, not a third of %d", n, count, triple)
		}
	}
}
