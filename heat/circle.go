package heat

// circle has the last boat in the middle of a ring: round r is of it and r, and of those that are equally far from r.
func circle(n int) schedule {
	s := schedule{n, make([][][2]int, n-1)}
	for r := range s.rounds {
		s.rounds[r] = append(s.rounds[r], between(r, n-1, r%2 == 1))
		for k := 1; k < n/2; k++ {
			a, b := (r+k)%(n-1), (r-k+n-1)%(n-1)
			s.rounds[r] = append(s.rounds[r], between(a, b, k%2 == 1))
		}
	}
	return s
}

// between is the match of a and b, with a at home or away.
func between(a, b int, home bool) [2]int {
	if home {
		return [2]int{a, b}
	}
	return [2]int{b, a}
}
