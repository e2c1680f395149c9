package heat

import (
	"iter"

	"forcola/api"
)

// A schedule has rounds of matches, in each of which the first boat is at home.
type schedule struct {
	n      int
	rounds [][][2]int
}

func areBoats(n int) bool {
	return n%2 == 0 && n >= minBoats && n <= maxBoats
}

// read returns the schedule of n boats that has those rounds, or the error that Check returns.
func read(n int, rounds [][][2]int) (schedule, api.Errno) {
	if !areBoats(n) {
		return schedule{}, api.ErrArg
	}
	s := schedule{n, rounds}
	if !s.isRight() {
		return schedule{}, api.ErrTeams
	}
	return s, api.OK
}

// isRight reports whether all boats are in each round, and all pairs in all of them. As no boat and no pair may come twice, it is enough that there are as many matches as they need.
func (s schedule) isRight() bool {
	if len(s.rounds) != s.n-1 {
		return false
	}
	met := meetings{}
	for _, round := range s.rounds {
		if len(round) != s.n/2 || !s.isRound(round, met) {
			return false
		}
	}
	return true
}

// isRound reports whether the matches are of boats that come only once, and that have not met before.
func (s schedule) isRound(round [][2]int, met meetings) bool {
	var seen marks
	for _, match := range round {
		if !seen.add(s.n, match[:]...) || !met.add(match[:]...) {
			return false
		}
	}
	return true
}

// matches yields the numbers of rounds with each of their matches.
func (s schedule) matches() iter.Seq2[int, [2]int] {
	return func(yield func(int, [2]int) bool) {
		for r, round := range s.rounds {
			for _, match := range round {
				if !yield(r, match) {
					return
				}
			}
		}
	}
}

func (s schedule) patterns() []string {
	letters := make([][maxBoats]byte, s.n)
	for r, match := range s.matches() {
		letters[match[0]][r] = 'H'
		letters[match[1]][r] = 'A'
	}
	var found []string
	for _, l := range letters {
		found = append(found, string(l[:len(s.rounds)]))
	}
	return found
}

func (s schedule) breaks() int {
	count := 0
	for _, pattern := range s.patterns() {
		for r := 1; r < len(pattern); r++ {
			if pattern[r] == pattern[r-1] {
				count++
			}
		}
	}
	return count
}

func (s schedule) swapped() schedule {
	x := schedule{s.n, make([][][2]int, len(s.rounds))}
	for r, match := range s.matches() {
		x.rounds[r] = append(x.rounds[r], [2]int{match[1], match[0]})
	}
	return x
}

// carry goes with each boat from round to round, and from the last one to the first.
func (s schedule) carry() [][]int {
	var met [maxBoats][maxBoats]int // by rounds and boats: whom they meet
	for r, match := range s.matches() {
		met[r][match[0]] = match[1]
		met[r][match[1]] = match[0]
	}
	table := make([][]int, s.n)
	for i := range table {
		table[i] = make([]int, s.n)
	}
	for r := range s.rounds {
		next := (r + 1) % len(s.rounds)
		for boat := range s.n {
			table[met[r][boat]][met[next][boat]]++
		}
	}
	return table
}
