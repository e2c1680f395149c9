package beta

// numeral is the numeral of n.
func numeral(n int) node {
	var body node = number(0)
	for range n {
		body = newApplication(pair[node]{number(1), body})
	}
	return newAbstraction(newAbstraction(body))
}

// count is the number of which n is the numeral, and whether it is one.
func count(n node) (int, bool) {
	for range 2 {
		a, ok := n.(*abstraction)
		if !ok {
			return 0, false
		}
		n = a.body
	}
	letters := 0
	for {
		switch part := n.(type) {
		case number:
			if part != 0 {
				return 0, false
			}
			return letters, true
		case *application:
			if f, ok := part.left.(number); !ok || f != 1 {
				return 0, false
			}
			letters++
			n = part.right
		default:
			return 0, false
		}
	}
}
