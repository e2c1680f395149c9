package heat

// Marks are the boats that have been seen.
type marks [maxTriples]bool

// add marks the boats. It reports whether all of them are boats below n that had no mark.
func (m *marks) add(n int, boats ...int) bool {
	for _, b := range boats {
		if b < 0 || b >= n || m[b] {
			return false
		}
		m[b] = true
	}
	return true
}

// A pair is two boats, the lesser one first.
type pair struct{ low, high int }

// Meetings are the pairs that have met.
type meetings map[pair]bool

// add notes that each two of the boats meet. It reports whether no two of them had met.
func (m meetings) add(boats ...int) bool {
	for i, a := range boats {
		for _, b := range boats[:i] {
			p := pair{min(a, b), max(a, b)}
			if m[p] {
				return false
			}
			m[p] = true
		}
	}
	return true
}

// areAll reports whether each two of n boats have met.
func (m meetings) areAll(n int) bool { return len(m) == n*(n-1)/2 }
