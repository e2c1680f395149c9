package heat

// polynomialOf returns one for a field of n elements, of which x has all others but 0 as its powers. A polynomial's bits are its coefficients.
func polynomialOf(n int) (int, bool) {
	switch n {
	case 4:
		return 0b111, true
	case 8:
		return 0b1011, true
	case 16:
		return 0b10011, true
	}
	return 0, false
}

// field returns the product of the field of n elements with that polynomial. Sums are those of bits without carry.
func field(n, polynomial int) func(a, b int) int {
	return func(a, b int) int {
		product := 0
		for ; b > 0; b >>= 1 {
			if b&1 == 1 {
				product ^= a
			}
			a <<= 1
			if a >= n {
				a ^= polynomial
			}
		}
		return product
	}
}

// balanced has rounds for the powers of x: in each of them those boats meet whose sum is that power. Who meets i and then j is t with t + j = x (t + i), so there is just one t.
func balanced(n int, times func(a, b int) int) schedule {
	const x = 2
	s := schedule{n, make([][][2]int, n-1)}
	power := 1
	for r := range s.rounds {
		for a := range n {
			if b := a ^ power; a < b {
				s.rounds[r] = append(s.rounds[r], [2]int{a, b})
			}
		}
		power = times(power, x)
	}
	return s
}
