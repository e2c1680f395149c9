package shift

// areAscending reports whether each element of l after the first one is from 0 to one more than the ascents before it.
func areAscending(l []int) bool {
	count := 0
	for i := 1; i < len(l); i++ {
		if l[i] < 0 || l[i] > count+1 {
			return false
		}
		if l[i] > l[i-1] {
			count++
		}
	}
	return true
}

// A rest is what a list's beginning leaves open: how many elements are missing, the last one, and the ascents so far.
type rest struct{ missing, last, ascents int }

// ascents counts the ascent lists of n elements.
func ascents(n int) int64 {
	known := map[rest]int64{}
	var count func(r rest) int64
	count = func(r rest) int64 {
		if r.missing == 0 {
			return 1
		}
		if sum, ok := known[r]; ok {
			return sum
		}
		sum := int64(0)
		for next := range r.ascents + 2 {
			now := rest{r.missing - 1, next, r.ascents}
			if next > r.last {
				now.ascents++
			}
			sum += count(now)
		}
		known[r] = sum
		return sum
	}
	return count(rest{missing: n - 1})
}
