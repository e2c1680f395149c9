package score

// isShort reports whether k is a violation of the list of scores l.
func isShort(l []int, k int) bool {
	n := len(l)
	if k < 0 || k > n {
		return false
	}
	if k == 0 {
		return compareSums(l, []int{n * (n - 1) / 2}) != 0
	}
	return compareSums(sorted(l, leastFirst)[:k], []int{k * (k - 1) / 2}) < 0
}

// hold returns a regatta with the scores l, and whether there is one. If there is, there is also one in which the boat that needs fewest wins has them against those that need fewest after it.
func hold(l []int) (regatta, bool) {
	r := regatta{n: len(l)}
	for left := needs(l); len(left) > 0; left = left[1:] {
		left = sorted(left, leastNeedFirst)
		first := left[0]
		if first.lacks < 0 || first.lacks >= len(left) {
			return regatta{}, false
		}
		weaker, stronger := left[1:first.lacks+1], left[first.lacks+1:]
		for _, other := range weaker {
			r.beats[first.owner] |= single(other.owner)
		}
		for i, other := range stronger {
			stronger[i].lacks--
			r.beats[other.owner] |= single(first.owner)
		}
	}
	return r, true
}
