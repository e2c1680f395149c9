package shift_test

import (
	"iter"
	"math/big"
	"math/rand"
	"slices"
	"strings"
)

// What follows is slow and plain models of the chapter's definitions, to which the package is compared.

type table = [][]bool

// isOrder looks at each element, and at each three of them.
func isOrder(p table) bool {
	n := len(p)
	if n < 1 || n > 12 {
		return false
	}
	for _, row := range p {
		if len(row) != n {
			return false
		}
	}
	for x := range n {
		if p[x][x] {
			return false
		}
		for y := range n {
			for z := range n {
				if p[x][y] && p[y][z] && !p[x][z] {
					return false
				}
			}
		}
	}
	return true
}

func overlap(p table, x, y int) bool { return x != y && !p[x][y] && !p[y][x] }

// areFour reports whether x are four different elements.
func areFour(p table, x [4]int) bool {
	for i, y := range x {
		if y < 0 || y >= len(p) || slices.Contains(x[:i], y) {
			return false
		}
	}
	return true
}

func isTwoTwo(p table, x [4]int) bool {
	if !isOrder(p) || !areFour(p, x) {
		return false
	}
	a, b, c, d := x[0], x[1], x[2], x[3]
	return p[a][b] && p[c][d] && !p[a][d] && !p[c][b]
}

func isThreeOne(p table, x [4]int) bool {
	if !isOrder(p) || !areFour(p, x) {
		return false
	}
	a, b, c, d := x[0], x[1], x[2], x[3]
	return p[a][b] && p[b][c] && overlap(p, d, a) && overlap(p, d, b) && overlap(p, d, c)
}

// fours yields all lists of four different elements, of n.
func fours(n int) iter.Seq[[4]int] {
	return func(yield func([4]int) bool) {
		for code := range n * n * n * n {
			x := [4]int{code % n, code / n % n, code / n / n % n, code / n / n / n}
			if x[0] == x[1] || x[0] == x[2] || x[0] == x[3] || x[1] == x[2] || x[1] == x[3] || x[2] == x[3] {
				continue
			}
			if !yield(x) {
				return
			}
		}
	}
}

// hasTwoTwo and hasThreeOne look at all lists of four elements of an order.
func hasTwoTwo(p table) bool {
	for x := range fours(len(p)) {
		if p[x[0]][x[1]] && p[x[2]][x[3]] && !p[x[0]][x[3]] && !p[x[2]][x[1]] {
			return true
		}
	}
	return false
}

func hasThreeOne(p table) bool {
	for x := range fours(len(p)) {
		if p[x[0]][x[1]] && p[x[1]][x[2]] && overlap(p, x[3], x[0]) && overlap(p, x[3], x[1]) && overlap(p, x[3], x[2]) {
			return true
		}
	}
	return false
}

// setsBefore are the sets of all before an element, as strings of a letter for each element; by size, each once.
func setsBefore(p table) []string {
	var l []string
	for y := range p {
		if s := setBefore(p, y); !slices.Contains(l, s) {
			l = append(l, s)
		}
	}
	slices.SortFunc(l, func(s, t string) int { return strings.Count(s, "x") - strings.Count(t, "x") })
	return l
}

func setBefore(p table, y int) string {
	s := ""
	for x := range p {
		if p[x][y] {
			s += "x"
		} else {
			s += "-"
		}
	}
	return s
}

// canonical are the canonical intervals by their definition.
func canonical(p table) [][2]int {
	sets := setsBefore(p)
	l := make([][2]int, len(p))
	for x := range p {
		for i, s := range sets {
			if s == setBefore(p, x) {
				l[x][0] = i
			}
			if s[x] == '-' {
				l[x][1] = i
			}
		}
	}
	return l
}

// represented is the order that the intervals represent.
func represented(l [][2]int) table {
	p := empty(len(l))
	for x := range l {
		for y := range l {
			p[x][y] = l[x][1] < l[y][0]
		}
	}
	return p
}

// ends are the different ends of the intervals.
func ends(l [][2]int) map[int]bool {
	m := map[int]bool{}
	for _, x := range l {
		m[x[0]], m[x[1]] = true, true
	}
	return m
}

// represents reckons with numbers of any size.
func represents(p table, positions []int, width int) bool {
	if !isOrder(p) || len(positions) != len(p) || width < 0 {
		return false
	}
	for x := range p {
		for y := range p {
			sum := new(big.Int).Add(big.NewInt(int64(positions[x])), big.NewInt(int64(width)))
			if p[x][y] != (big.NewInt(int64(positions[y])).Cmp(sum) > 0) {
				return false
			}
		}
	}
	return true
}

// hasLevels reports whether what overlaps something that overlaps y overlaps y, or is y.
func hasLevels(p table) bool {
	for x := range p {
		for y := range p {
			for z := range p {
				if overlap(p, x, y) && overlap(p, y, z) && x != z && !overlap(p, x, z) {
					return false
				}
			}
		}
	}
	return true
}

// levels takes away, again and again, the elements before which nothing is left.
func levels(p table) []int {
	l := make([]int, len(p))
	left := len(p)
	for x := range l {
		l[x] = -1
	}
	for level := 0; left > 0; level++ {
		var next []int
		for y := range p {
			if l[y] < 0 && !slices.ContainsFunc(numbers(len(p)), func(x int) bool { return l[x] < 0 && p[x][y] }) {
				next = append(next, y)
			}
		}
		for _, y := range next {
			l[y] = level
		}
		left -= len(next)
	}
	return l
}

func numbers(n int) []int {
	l := make([]int, n)
	for i := range l {
		l[i] = i
	}
	return l
}

// meet reports whether two intervals have a number in common.
func meet(a, b [2]int) bool { return a[0] <= b[1] && b[0] <= a[1] }

// areBoats reports whether those are boats for the intervals, all less than count, and none of these numbers is left out.
func areBoats(l [][2]int, boats []int, count int) bool {
	if len(boats) != len(l) {
		return false
	}
	used := map[int]bool{}
	for i, b := range boats {
		used[b] = true
		if b < 0 || b >= count {
			return false
		}
		for j := range i {
			if b == boats[j] && meet(l[i], l[j]) {
				return false
			}
		}
	}
	return len(used) == count
}

// fewestBoats tries all boats, with one more number as long as there are none.
func fewestBoats(l [][2]int) int {
	boats := make([]int, len(l))
	var fits func(i, used, count int) bool
	fits = func(i, used, count int) bool {
		if i == len(l) {
			return true
		}
		for b := range min(used+1, count) {
			if !slices.ContainsFunc(numbers(i), func(j int) bool { return boats[j] == b && meet(l[i], l[j]) }) {
				boats[i] = b
				if fits(i+1, max(used, b+1), count) {
					return true
				}
			}
		}
		return false
	}
	count := 1
	for !fits(0, 0, count) {
		count++
	}
	return count
}

// peak is the least number from low to high that as many intervals contain as any, and how many contain it.
func peak(l [][2]int, low, high int) (int, int) {
	best, most := low, -1
	for x := low; x <= high; x++ {
		count := 0
		for _, a := range l {
			if a[0] <= x && x <= a[1] {
				count++
			}
		}
		if count > most {
			best, most = x, count
		}
	}
	return best, most
}

// isAscent counts for each element the ascents before it once more.
func isAscent(l []int) bool {
	if len(l) == 0 || l[0] != 0 {
		return false
	}
	for i, x := range l {
		count := 0
		for j := 1; j < i; j++ {
			if l[j] > l[j-1] {
				count++
			}
		}
		if i > 0 && (x < 0 || x > count+1) {
			return false
		}
	}
	return true
}

// empty is the table of n elements of which none is before another one.
func empty(n int) table {
	p := make(table, n)
	for x := range p {
		p[x] = make([]bool, n)
	}
	return p
}

func cloned(p table) table {
	q := make(table, len(p))
	for x := range p {
		q[x] = slices.Clone(p[x])
	}
	return q
}

func same(p, q table) bool { return slices.EqualFunc(p, q, slices.Equal[[]bool]) }

// chain is the order of n elements one after the other.
func chain(n int) table {
	p := empty(n)
	for x := range n {
		for y := x + 1; y < n; y++ {
			p[x][y] = true
		}
	}
	return p
}

// order is the order of n elements with what follows from the pairs, x before y.
func order(n int, pairs ...[2]int) table {
	p := empty(n)
	for _, x := range pairs {
		p[x[0]][x[1]] = true
	}
	return closed(p)
}

// closed adds what is before something that is before y.
func closed(p table) table {
	for z := range p {
		for x := range p {
			for y := range p {
				if p[x][z] && p[z][y] {
					p[x][y] = true
				}
			}
		}
	}
	return p
}

// renumbered is the table whose element x has the number to[x].
func renumbered(p table, to []int) table {
	q := empty(len(p))
	for x := range p {
		for y := range p {
			q[to[x]][to[y]] = p[x][y]
		}
	}
	return q
}

// tables yields all tables of n rows of n.
func tables(n int) iter.Seq[table] {
	return func(yield func(table) bool) {
		for code := range 1 << (n * n) {
			p := empty(n)
			for i := range n * n {
				p[i/n][i%n] = code>>i&1 == 1
			}
			if !yield(p) {
				return
			}
		}
	}
}

// orders yields all orders of n elements, with their numbers.
func orders(n int) iter.Seq[table] {
	return func(yield func(table) bool) {
		count := 1
		for range n * (n - 1) / 2 {
			count *= 3
		}
		for code := range count {
			p := empty(n)
			for x := range n {
				for y := range x {
					p[x][y], p[y][x] = code%3 == 1, code%3 == 2
					code /= 3
				}
			}
			if isOrder(p) && !yield(p) {
				return
			}
		}
	}
}

// after is the order of p, and of q after it.
func after(p, q table) table {
	r := beside(p, q)
	for x := range p {
		for y := range q {
			r[x][len(p)+y] = true
		}
	}
	return r
}

// beside is the order of p, and of q overlapping it.
func beside(p, q table) table {
	r := empty(len(p) + len(q))
	for x := range p {
		copy(r[x], p[x])
	}
	for x := range q {
		copy(r[len(p)+x][len(p):], q[x])
	}
	return r
}

// What follows are orders of n elements, some of them random.

func shuffled(r *rand.Rand, p table) table { return renumbered(p, r.Perm(len(p))) }

// randomIntervals have ends from -2 on.
func randomIntervals(r *rand.Rand, n, ends int) [][2]int {
	l := make([][2]int, n)
	for x := range l {
		a, b := r.Intn(ends)-2, r.Intn(ends)-2
		l[x] = [2]int{min(a, b), max(a, b)}
	}
	return l
}

// randomPositions represent an order with a width.
func randomPositions(r *rand.Rand, n, most, width int) table {
	l := make([]int, n)
	for x := range l {
		l[x] = r.Intn(most)
	}
	p := empty(n)
	for x := range l {
		for y := range l {
			p[x][y] = l[y] > l[x]+width
		}
	}
	return p
}

// randomOrder has what follows from random pairs, as many of a hundred.
func randomOrder(r *rand.Rand, n, hundredth int) table {
	p := empty(n)
	for x := range n {
		for y := range x {
			p[y][x] = r.Intn(100) < hundredth
		}
	}
	return shuffled(r, closed(p))
}

// randomBlocks are small orders one after the other, or beside one another, some with a two and two or a three and one.
func randomBlocks(r *rand.Rand, n int) table {
	p := empty(1)
	for len(p) < n {
		blocks := []table{empty(1), empty(2), empty(3), chain(2), chain(3)}
		if len(p) < n-3 && r.Intn(5) == 0 {
			blocks = []table{beside(chain(2), chain(2)), beside(chain(3), empty(1)), order(4, [2]int{0, 2}, [2]int{1, 2}, [2]int{1, 3})}
		}
		q := blocks[r.Intn(len(blocks))]
		if len(p)+len(q) > n {
			q = empty(1)
		}
		switch r.Intn(8) {
		case 0:
			p = beside(p, q)
		case 1, 2, 3:
			p = after(q, p)
		default:
			p = after(p, q)
		}
	}
	return shuffled(r, p)
}

// randomOne is one of all these.
func randomOne(r *rand.Rand, n int) table {
	switch r.Intn(5) {
	case 0:
		return represented(randomIntervals(r, n, 1+r.Intn(15)))
	case 1:
		return randomPositions(r, n, 1+r.Intn(30), r.Intn(8))
	case 2:
		return randomPositions(r, n, 1+r.Intn(9), 0)
	case 3:
		return randomOrder(r, n, r.Intn(100))
	}
	return randomBlocks(r, n)
}
