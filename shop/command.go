package shop

import (
	"slices"

	"forcola/api"
	"forcola/gram"
	"forcola/tangle"
	"forcola/term"
)

// command returns the line that begins with that word and changes the shop, or nil if there is none.
func (s *Shop) command(first string) line {
	switch first {
	case "quarrel":
		return withNumbers(s.quarrel)
	case "peace":
		return withNumbers(s.peace)
	case "rule":
		return withWord(s.addRule)
	case "rope":
		return withWord(s.addRope)
	case "slip":
		return alone(s.slip)
	case "shift":
		return withNumbers(s.addShift)
	case "beat":
		return withNumbers(s.beat)
	case "degree":
		return withNumber(s.addDegree)
	case "terms":
		return withWords(s.setTerms)
	}
	return nil
}

func (s *Shop) quarrel(a, b int) (string, api.Errno) {
	if !areTwoOf(passengers, a, b) {
		return "", api.ErrArg
	}
	if s.quarrels[edge(a, b)] {
		return "", api.ErrState
	}
	s.quarrels[edge(a, b)] = true
	return done, api.OK
}

func (s *Shop) peace(a, b int) (string, api.Errno) {
	if !areTwoOf(passengers, a, b) {
		return "", api.ErrArg
	}
	if !s.quarrels[edge(a, b)] {
		return "", api.ErrNone
	}
	delete(s.quarrels, edge(a, b))
	return done, api.OK
}

// addRule checks the new rule together with the others: a grammar has no rule twice.
func (s *Shop) addRule(rule string) (string, api.Errno) {
	rules := append(slices.Clone(s.rules), rule)
	if e := gram.Check(rules); e != api.OK {
		return "", e
	}
	if len(rules) > maxRules {
		return "", api.ErrFull
	}
	s.rules = rules
	return done, api.OK
}

func (s *Shop) addRope(word string) (string, api.Errno) {
	rope := s.rope + word
	if _, _, e := tangle.Value(rope); e != api.OK {
		return "", e
	}
	s.rope = rope
	return done, api.OK
}

func (s *Shop) slip() (string, api.Errno) {
	s.rope = ""
	return done, api.OK
}

func (s *Shop) addShift(left, right int) (string, api.Errno) {
	if left > right {
		return "", api.ErrArg
	}
	if len(s.shifts) == maxShifts {
		return "", api.ErrFull
	}
	s.shifts = append(s.shifts, [2]int{left, right})
	return done, api.OK
}

func (s *Shop) beat(winner, loser int) (string, api.Errno) {
	if !areTwoOf(racers, winner, loser) {
		return "", api.ErrArg
	}
	if s.beaten[winner][loser] || s.beaten[loser][winner] {
		return "", api.ErrState
	}
	s.beaten[winner][loser] = true
	return done, api.OK
}

func (s *Shop) addDegree(n int) (string, api.Errno) {
	if len(s.degrees) == maxDegrees {
		return "", api.ErrFull
	}
	s.degrees = append(s.degrees, n)
	return done, api.OK
}

func (s *Shop) setTerms(first, second string) (string, api.Errno) {
	if e := term.Check(first, second); e != api.OK {
		return "", e
	}
	s.terms = [2]string{first, second}
	return done, api.OK
}

// areTwoOf reports whether a and b are different ones of count, from 0 on.
func areTwoOf(count, a, b int) bool {
	return a >= 0 && a < count && b >= 0 && b < count && a != b
}

// edge returns the edge between a and b, as graphs have it.
func edge(a, b int) [2]int {
	return [2]int{min(a, b), max(a, b)}
}
