package score

import (
	"cmp"
	"slices"

	"forcola/api"
)

// checkLength returns ErrLong or ErrArg if l has more than most numbers, or none.
func checkLength(l []int, most int) api.Errno {
	switch {
	case len(l) > most:
		return api.ErrLong
	case len(l) == 0:
		return api.ErrArg
	}
	return api.OK
}

// sorted is a sorted copy of the list.
func sorted[T any](list []T, compare func(a, b T) int) []T {
	other := slices.Clone(list)
	slices.SortFunc(other, compare)
	return other
}

func leastFirst(a, b int) int { return cmp.Compare(a, b) }

func greatestFirst(a, b int) int { return cmp.Compare(b, a) }

// compareSums compares the sum of a to that of b. It adds the upper and the lower halves of the numbers apart, as the sums may be too large for an int.
func compareSums(a, b []int) int {
	const lowHalf = 1<<32 - 1
	var upper, lower int64
	for _, number := range a {
		upper += int64(number) >> 32
		lower += int64(number) & lowHalf
	}
	for _, number := range b {
		upper -= int64(number) >> 32
		lower -= int64(number) & lowHalf
	}
	upper += lower >> 32
	return cmp.Or(cmp.Compare(upper, 0), cmp.Compare(lower&lowHalf, 0))
}

// leastViolation is the least k that violates l, and whether there is one.
func leastViolation(l []int, violates func(l []int, k int) bool) (int, bool) {
	for k := range len(l) + 1 {
		if violates(l, k) {
			return k, true
		}
	}
	return 0, false
}

// A need is how many edges a vertex, or how many wins a boat, still lacks.
type need struct{ lacks, owner int }

// needs are those of the numbers in l.
func needs(l []int) []need {
	list := make([]need, len(l))
	for owner, lacks := range l {
		list[owner] = need{lacks, owner}
	}
	return list
}

func leastNeedFirst(a, b need) int {
	return cmp.Or(cmp.Compare(a.lacks, b.lacks), cmp.Compare(a.owner, b.owner))
}

func greatestNeedFirst(a, b need) int { return leastNeedFirst(b, a) }
