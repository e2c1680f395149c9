package score_test

import (
	"iter"
	"math/big"
	"math/rand"
	"slices"
)

// What follows is slow and plain models of the chapter's definitions, to which the package is compared.

// lists yields all lists of n numbers from least to most. The list is the same one each time, changed.
func lists(n, least, most int) iter.Seq[[]int] {
	return func(yield func([]int) bool) {
		l := slices.Repeat([]int{least}, n)
		for yield(l) {
			at := 0
			for at < n && l[at] == most {
				l[at] = least
				at++
			}
			if at == n {
				return
			}
			l[at]++
		}
	}
}

// pairs are all [2]int{i, j}, i < j, of n things, in rising order.
func pairs(n int) [][2]int {
	var l [][2]int
	for i := range n {
		for j := i + 1; j < n; j++ {
			l = append(l, [2]int{i, j})
		}
	}
	return l
}

// allGraphs yields the edges of all graphs of n vertices.
func allGraphs(n int) iter.Seq[[][2]int] {
	return func(yield func([][2]int) bool) {
		for set := range 1 << len(pairs(n)) {
			var edges [][2]int
			for at, x := range pairs(n) {
				if set>>at&1 == 1 {
					edges = append(edges, x)
				}
			}
			if !yield(edges) {
				return
			}
		}
	}
}

// degrees are how many edges each of n vertices has.
func degrees(n int, edges [][2]int) []int {
	l := make([]int, n)
	for _, x := range edges {
		l[x[0]]++
		l[x[1]]++
	}
	return l
}

// isGraph reports whether those are the edges of a graph of n vertices.
func isGraph(n int, edges [][2]int) bool {
	all := pairs(n)
	for _, x := range edges {
		at := slices.Index(all, x)
		if at < 0 {
			return false
		}
		all = all[at+1:]
	}
	return true
}

// sum is exact, whatever its size.
func sum(l []int) *big.Int {
	s := new(big.Int)
	for _, x := range l {
		s.Add(s, big.NewInt(int64(x)))
	}
	return s
}

// violates says of a list of degrees what the definition says.
func violates(l []int, k int) bool {
	if len(l) < 1 || len(l) > 16 || k < 0 || k > len(l) {
		return false
	}
	d := slices.Sorted(slices.Values(l))
	slices.Reverse(d)
	if k == 0 {
		return sum(d).Bit(0) == 1 || slices.Min(d) < 0
	}
	bound := big.NewInt(int64(k * (k - 1)))
	for _, x := range d[k:] {
		bound.Add(bound, big.NewInt(int64(min(x, k))))
	}
	return sum(d[:k]).Cmp(bound) > 0
}

// falls says of a list of scores whether k is a violation.
func falls(l []int, k int) bool {
	if len(l) < 1 || len(l) > 12 || k < 0 || k > len(l) {
		return false
	}
	d := slices.Sorted(slices.Values(l))
	if k == 0 {
		return sum(d).Cmp(big.NewInt(int64(len(d)*(len(d)-1)/2))) != 0
	}
	return sum(d[:k]).Cmp(big.NewInt(int64(k*(k-1)/2))) < 0
}

// least is the least k that is so, and whether there is one.
func least(l []int, is func(l []int, k int) bool) (int, bool) {
	for k := range len(l) + 1 {
		if is(l, k) {
			return k, true
		}
	}
	return 0, false
}

// isRegatta reports whether t is a regatta.
func isRegatta(t [][]bool) bool {
	if len(t) < 1 || len(t) > 12 {
		return false
	}
	for i := range t {
		if len(t[i]) != len(t) {
			return false
		}
	}
	for i := range t {
		for j := range t {
			if t[i][i] || i != j && t[i][j] == t[j][i] {
				return false
			}
		}
	}
	return true
}

// beating is the regatta of n boats in which i beats j just if beats says so.
func beating(n int, beats func(i, j int) bool) [][]bool {
	t := make([][]bool, n)
	for i := range n {
		t[i] = make([]bool, n)
		for j := range n {
			t[i][j] = i != j && beats(i, j)
		}
	}
	return t
}

// lesserWins is the regatta of n boats in which the lesser number wins.
func lesserWins(n int) [][]bool { return beating(n, func(i, j int) bool { return i < j }) }

// wheel is the regatta in which each boat beats the next ones, up to the half, round the circle.
func wheel(n int) [][]bool {
	return beating(n, func(i, j int) bool {
		d := (j - i + n) % n
		return 2*d < n || 2*d == n && i < j
	})
}

// clone shares nothing with t.
func clone(t [][]bool) [][]bool {
	return beating(len(t), func(i, j int) bool { return t[i][j] })
}

// renumbered is the regatta whose boat order[i] is boat i of t.
func renumbered(t [][]bool, order []int) [][]bool {
	return beating(len(t), func(i, j int) bool { return t[slices.Index(order, i)][slices.Index(order, j)] })
}

// allRegattas yields all regattas of n boats.
func allRegattas(n int) iter.Seq[[][]bool] {
	return func(yield func([][]bool) bool) {
		for set := range 1 << len(pairs(n)) {
			t := lesserWins(n)
			for at, x := range pairs(n) {
				if set>>at&1 == 1 {
					t[x[0]][x[1]], t[x[1]][x[0]] = false, true
				}
			}
			if !yield(t) {
				return
			}
		}
	}
}

// someRegattas yields random regattas of at most most boats: of equal ones, of boats of which the better one mostly wins, and of blocks within blocks.
func someRegattas(seed int64, count, most int) iter.Seq[[][]bool] {
	return func(yield func([][]bool) bool) {
		r := rand.New(rand.NewSource(seed))
		for at := range count {
			n := 1 + r.Intn(most)
			t := lesserWins(n)
			for _, x := range pairs(n) {
				if r.Intn([]int{2, 6}[at%2]) == 0 && (at%3 > 0 || x[0]/3 == x[1]/3) {
					t[x[0]][x[1]], t[x[1]][x[0]] = false, true
				}
			}
			if !yield(renumbered(t, r.Perm(n))) {
				return
			}
		}
	}
}

func scoresOf(t [][]bool) []int {
	l := make([]int, len(t))
	for i := range t {
		for j := range t {
			if t[i][j] {
				l[i]++
			}
		}
	}
	return l
}

func kingsOf(t [][]bool) []int {
	var l []int
	for i := range t {
		king := true
		for j := range t {
			found := i == j || t[i][j]
			for w := range t {
				found = found || t[i][w] && t[w][j]
			}
			king = king && found
		}
		if king {
			l = append(l, i)
		}
	}
	return l
}

// orders are all lists of the numbers from 0 to n - 1, in the order of lists.
func orders(n int) iter.Seq[[]int] {
	return func(yield func([]int) bool) {
		var extend func(l []int) bool
		extend = func(l []int) bool {
			if len(l) == n {
				return yield(slices.Clone(l))
			}
			for v := range n {
				if !slices.Contains(l, v) && !extend(append(l, v)) {
					return false
				}
			}
			return true
		}
		extend(make([]int, 0, n))
	}
}

// isLine reports whether l is a list of all boats, each of which beats the next one.
func isLine(t [][]bool, l []int) bool {
	all := slices.Sorted(slices.Values(l))
	if len(l) != len(t) {
		return false
	}
	for i := range all {
		if all[i] != i {
			return false
		}
	}
	for i := 1; i < len(l); i++ {
		if !t[l[i-1]][l[i]] {
			return false
		}
	}
	return true
}

func isRing(t [][]bool, l []int) bool {
	return isLine(t, l) && len(l) >= 3 && t[l[len(l)-1]][l[0]]
}

func hasRing(t [][]bool) bool {
	for l := range orders(len(t)) {
		if isRing(t, l) {
			return true
		}
	}
	return false
}

func members(set int) []int {
	var l []int
	for v := 0; set>>v > 0; v++ {
		if set>>v&1 == 1 {
			l = append(l, v)
		}
	}
	return l
}

// blocksOf are all blocks.
func blocksOf(t [][]bool) [][]int {
	var l [][]int
	for set := 1; set < 1<<len(t)-1; set++ {
		is := true
		for i := range t {
			for j := range t {
				is = is && (set>>i&1 == 0 || set>>j&1 == 1 || t[i][j])
			}
		}
		if is {
			l = append(l, members(set))
		}
	}
	return l
}

// rings are all three boats that beat each other in a ring, in the order of lists.
func rings(t [][]bool) [][3]int {
	var l [][3]int
	for i := range t {
		for j := i + 1; j < len(t); j++ {
			for k := j + 1; k < len(t); k++ {
				if t[i][j] && t[j][k] && t[k][i] || t[j][i] && t[k][j] && t[i][k] {
					l = append(l, [3]int{i, j, k})
				}
			}
		}
	}
	return l
}

// upsets is how many pairs of the list there are of which the later one beats the earlier one.
func upsets(t [][]bool, l []int) int {
	count := 0
	for _, x := range pairs(len(l)) {
		if t[l[x[1]]][l[x[0]]] {
			count++
		}
	}
	return count
}

// ranked is the first list with the fewest upsets, found by comparing all lists.
func ranked(t [][]bool) ([]int, int) {
	var best []int
	fewest := len(t) * len(t)
	for l := range orders(len(t)) {
		if count := upsets(t, l); count < fewest {
			best, fewest = l, count
		}
	}
	return best, fewest
}
