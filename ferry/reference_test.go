package ferry_test

import (
	"iter"
	"math/rand"
	"slices"
)

// What follows is slow and plain models of the chapter's definitions, to which the package is compared.

// A picture of passengers says of each two whether they have an edge.
type picture struct {
	n    int
	edge [16][16]bool
}

func draw(n int, edges [][2]int) picture {
	p := picture{n: n}
	for _, x := range edges {
		p.edge[x[0]][x[1]] = true
		p.edge[x[1]][x[0]] = true
	}
	return p
}

func (p picture) edges() [][2]int {
	var l [][2]int
	for i := range p.n {
		for j := i + 1; j < p.n; j++ {
			if p.edge[i][j] {
				l = append(l, [2]int{i, j})
			}
		}
	}
	return l
}

// renumbered are the passengers of whom order[i] is i here.
func (p picture) renumbered(order []int) picture {
	q := picture{n: p.n}
	for i := range p.n {
		for j := range p.n {
			q.edge[order[i]][order[j]] = p.edge[i][j]
		}
	}
	return q
}

// members are the numbers of the set's bits; it may not be negative.
func members(set int) []int {
	var l []int
	for v := 0; set>>v > 0; v++ {
		if set>>v&1 == 1 {
			l = append(l, v)
		}
	}
	return l
}

func setOf(members ...int) int {
	set := 0
	for _, v := range members {
		set |= 1 << v
	}
	return set
}

func (p picture) isSet(number int) bool { return number >= 0 && number < 1<<p.n }

func (p picture) isQuiet(set int) bool {
	for _, x := range p.edges() {
		if set>>x[0]&1 == 1 && set>>x[1]&1 == 1 {
			return false
		}
	}
	return true
}

func (p picture) isCover(set int) bool {
	for _, x := range p.edges() {
		if set>>x[0]&1 == 0 && set>>x[1]&1 == 0 {
			return false
		}
	}
	return true
}

// cover tries all sets of no passengers, then all of one, and so on.
func (p picture) cover() int {
	for size := 0; ; size++ {
		for set := range 1 << p.n {
			if len(members(set)) == size && p.isCover(set) {
				return set
			}
		}
	}
}

// isPlan carries the passengers one by one, out of the banks and into them.
func (p picture) isPlan(seats int, plan []int) bool {
	var isRight [16]bool
	for i, taken := range plan {
		if !p.isSet(taken) || len(members(taken)) > seats {
			return false
		}
		toRight := i%2 == 0
		var inBoat [16]bool
		for _, v := range members(taken) {
			if isRight[v] == toRight {
				return false
			}
			inBoat[v] = true
		}
		for _, x := range p.edges() {
			if !inBoat[x[0]] && !inBoat[x[1]] && isRight[x[0]] == isRight[x[1]] {
				return false
			}
		}
		for _, v := range members(taken) {
			isRight[v] = toRight
		}
	}
	return len(plan)%2 == 1 && !slices.Contains(isRight[:p.n], false)
}

// fewestTrips goes on trip by trip with all right banks that there can be, until nothing new comes; it is 0 if there is no plan.
func (p picture) fewestTrips(seats int) int {
	all := 1<<p.n - 1
	var quiet, small []bool
	for set := range 1 << p.n {
		quiet = append(quiet, p.isQuiet(set))
		small = append(small, len(members(set)) <= seats)
	}
	reached := [2]map[int]bool{{0: true}, {}}
	for trips := 1; ; trips++ {
		from, to := reached[1-trips%2], reached[trips%2]
		before := len(to)
		for right := range from {
			here := right
			if trips%2 == 1 {
				here = all ^ right
			}
			for stay := here; ; stay = (stay - 1) & here {
				if small[here^stay] && quiet[stay] && quiet[all^here] {
					to[right^here^stay] = true
				}
				if stay == 0 {
					break
				}
			}
		}
		if reached[1][all] {
			return trips
		}
		if len(to) == before && trips > 1 {
			return 0
		}
	}
}

// isStructure goes through the definition word by word.
func (p picture) isStructure(seats int, s [5]int) bool {
	for _, x := range s {
		if !p.isSet(x) {
			return false
		}
	}
	x1, x2, x3, y1, y2 := s[0], s[1], s[2], s[3], s[4]
	x, y := 0, 0
	for v := range p.n {
		switch x1>>v&1 + x2>>v&1 + x3>>v&1 {
		case 0:
			y += 1 << v
		case 1:
			x += 1 << v
		default:
			return false
		}
	}
	switch {
	case seats < 1, !p.isQuiet(x), len(members(y)) > seats:
		return false
	case y1&x != 0, y2&x != 0, y1 == 0, y2 == 0:
		return false
	case !p.isQuiet(x1 + y1), !p.isQuiet(x2 + y2):
		return false
	}
	return len(members(y1))+len(members(y2)) >= len(members(x3))
}

// fewestSeats gives each passenger each of the seven places that it can have in a structure, and looks for the fewest seats; there is always a structure for some.
func (p picture) fewestSeats() int {
	fewest := p.n + 1
	var s [5]int
	var place func(v int)
	place = func(v int) {
		if v < p.n {
			for _, sets := range [][]int{{}, {0}, {1}, {2}, {3}, {4}, {3, 4}} {
				for _, i := range sets {
					s[i] += 1 << v
				}
				place(v + 1)
				for _, i := range sets {
					s[i] -= 1 << v
				}
			}
			return
		}
		for p.isStructure(fewest-1, s) {
			fewest--
		}
	}
	place(0)
	return fewest
}

func complete(n int) [][2]int {
	var l [][2]int
	for i := range n {
		for j := i + 1; j < n; j++ {
			l = append(l, [2]int{i, j})
		}
	}
	return l
}

// path is the edges of the path 0-1-2 and so on.
func path(n int) [][2]int {
	var l [][2]int
	for i := range n - 1 {
		l = append(l, [2]int{i, i + 1})
	}
	return l
}

func ring(n int) [][2]int {
	p := draw(n, path(n))
	p.edge[0][n-1], p.edge[n-1][0] = true, true
	return p.edges()
}

// star is the edges from 0 to all others.
func star(n int) [][2]int { return crossed(1, n-1) }

// crossed is the edges between the first a passengers and the b others.
func crossed(a, b int) [][2]int {
	var l [][2]int
	for i := range a {
		for j := range b {
			l = append(l, [2]int{i, a + j})
		}
	}
	return l
}

// pairs is the edges 0 1, 2 3 and so on.
func pairs(count int) [][2]int {
	var l [][2]int
	for i := range count {
		l = append(l, [2]int{2 * i, 2*i + 1})
	}
	return l
}

// petersen is the Petersen graph.
func petersen() picture {
	p := picture{n: 10}
	for i := range 5 {
		for _, x := range [][2]int{{i, (i + 1) % 5}, {i, i + 5}, {i + 5, (i+2)%5 + 5}} {
			p.edge[x[0]][x[1]], p.edge[x[1]][x[0]] = true, true
		}
	}
	return p
}

// allPictures yields all pictures of n passengers.
func allPictures(n int) iter.Seq[picture] {
	return func(yield func(picture) bool) {
		all := complete(n)
		for set := range 1 << len(all) {
			var edges [][2]int
			for _, i := range members(set) {
				edges = append(edges, all[i])
			}
			if !yield(draw(n, edges)) {
				return
			}
		}
	}
}

// random is n passengers with few, some or many edges.
func random(r *rand.Rand, n int) picture {
	p := picture{n: n}
	tenths := r.Intn(11)
	for i := range n {
		for j := range i {
			p.edge[i][j] = r.Intn(10) < tenths
			p.edge[j][i] = p.edge[i][j]
		}
	}
	return p
}

// somePictures yields random pictures of from least to most passengers.
func somePictures(seed int64, count, least, most int) iter.Seq[picture] {
	return func(yield func(picture) bool) {
		r := rand.New(rand.NewSource(seed))
		for range count {
			if !yield(random(r, least+r.Intn(most-least+1))) {
				return
			}
		}
	}
}

// builtPictures yields pictures of at most ten passengers that are built by a rule, with their numbers in several orders.
func builtPictures(seed int64) iter.Seq[picture] {
	return func(yield func(picture) bool) {
		r := rand.New(rand.NewSource(seed))
		built := []picture{petersen()}
		for n := 1; n <= 10; n++ {
			built = append(built, draw(n, nil), draw(n, complete(n)), draw(n, path(n)), draw(n, star(n)), draw(n, pairs(n/2)))
			for a := 2; a <= n/2; a++ {
				built = append(built, draw(n, crossed(a, n-a)), draw(n, crossed(1, a)), draw(n, complete(a)))
			}
			if n >= 3 {
				built = append(built, draw(n, ring(n)))
			}
		}
		for _, p := range built {
			if !yield(p) || !yield(p.renumbered(r.Perm(p.n))) {
				return
			}
		}
	}
}

// lists yields all lists of so many of the numbers from least to most; a list holds only until the next one.
func lists(size, least, most int) iter.Seq[[]int] {
	return func(yield func([]int) bool) {
		chosen := make([]int, size)
		var choose func(at int) bool
		choose = func(at int) bool {
			if at == size {
				return yield(chosen)
			}
			for x := least; x <= most; x++ {
				chosen[at] = x
				if !choose(at + 1) {
					return false
				}
			}
			return true
		}
		choose(0)
	}
}
