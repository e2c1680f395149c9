package score

import (
	"iter"
	"math/bits"
	"slices"

	"forcola/api"
)

// A set of boats is a word whose bits they are.
type boats uint

// single is the set of v alone.
func single(v int) boats { return 1 << v }

func (s boats) has(v int) bool { return s>>v&1 == 1 }

func (s boats) size() int { return bits.OnesCount(uint(s)) }

// each yields the boats of s, rising.
func (s boats) each() iter.Seq[int] {
	return func(yield func(int) bool) {
		for rest := s; rest != 0; rest &= rest - 1 {
			if !yield(bits.TrailingZeros(uint(rest))) {
				return
			}
		}
	}
}

// A regatta has for each boat those that it beats.
type regatta struct {
	n     int
	beats [maxBoats]boats
}

// read returns the regatta with the table t, or ErrBeats.
func read(t [][]bool) (regatta, api.Errno) {
	n := len(t)
	if n < 1 || n > maxBoats {
		return regatta{}, api.ErrBeats
	}
	r := regatta{n: n}
	for v, row := range t {
		if len(row) != n {
			return regatta{}, api.ErrBeats
		}
		for w, wins := range row {
			if wins {
				r.beats[v] |= single(w)
			}
		}
	}
	if !r.isFair() {
		return regatta{}, api.ErrBeats
	}
	return r, api.OK
}

// isFair reports whether of two different boats just one beats the other one, and no boat itself.
func (r regatta) isFair() bool {
	for v := range r.n {
		for w := range v {
			if r.beats[v].has(w) == r.beats[w].has(v) {
				return false
			}
		}
		if r.beats[v].has(v) {
			return false
		}
	}
	return true
}

// table is the regatta as a table.
func (r regatta) table() [][]bool {
	t := make([][]bool, r.n)
	for v := range t {
		t[v] = make([]bool, r.n)
		for w := range r.beats[v].each() {
			t[v][w] = true
		}
	}
	return t
}

// all is the set of all boats.
func (r regatta) all() boats { return single(r.n) - 1 }

func (r regatta) scores() []int {
	scores := make([]int, r.n)
	for v := range scores {
		scores[v] = r.beats[v].size()
	}
	return scores
}

// kings are all kings, rising.
func (r regatta) kings() []int {
	var kings []int
	for v := range r.n {
		reached := single(v) | r.beats[v]
		for w := range r.beats[v].each() {
			reached |= r.beats[w]
		}
		if reached == r.all() {
			kings = append(kings, v)
		}
	}
	return kings
}

// block is the block with the fewest boats, if there is one. Every block has the boats with the most wins, and whoever beats one of its boats.
func (r regatta) block() ([]int, bool) {
	scores := r.scores()
	block := single(slices.Index(scores, slices.Max(scores)))
	for before := boats(0); block != before; {
		before = block
		for v := range r.n {
			if r.beats[v]&before != 0 {
				block |= single(v)
			}
		}
	}
	if block == r.all() {
		return nil, false
	}
	return slices.Collect(block.each()), true
}

// triples yields all three boats i < j < k, in rising order of lists.
func (r regatta) triples() iter.Seq[[3]int] {
	return func(yield func([3]int) bool) {
		for i := range r.n {
			for j := i + 1; j < r.n; j++ {
				for k := j + 1; k < r.n; k++ {
					if !yield([3]int{i, j, k}) {
						return
					}
				}
			}
		}
	}
}

// isTurning reports whether the three boats beat each other in a ring, in the one sense or in the other one.
func (r regatta) isTurning(three [3]int) bool {
	i, j, k := three[0], three[1], three[2]
	turn := r.beats[i].has(j)
	return r.beats[j].has(k) == turn && r.beats[k].has(i) == turn
}
