package shop

import (
	"slices"

	"forcola/api"
	"forcola/beta"
	"forcola/ferry"
	"forcola/gram"
	"forcola/hue"
	"forcola/part"
	"forcola/score"
	"forcola/shift"
	"forcola/tangle"
	"forcola/term"
)

// question returns the line that begins with that word and changes nothing, or nil if there is none.
func (s *Shop) question(first string) line {
	switch first {
	case "least":
		return alone(s.least)
	case "trips":
		return withNumber(s.trips)
	case "hues":
		return alone(s.hues)
	case "apart":
		return alone(s.apart)
	case "trees":
		return withWord(s.trees)
	case "value":
		return alone(s.value)
	case "knot":
		return alone(s.knot)
	case "boats":
		return alone(s.boats)
	case "magnitude":
		return alone(s.magnitude)
	case "kings":
		return alone(s.kings)
	case "rounds":
		return alone(s.rounds)
	case "graph":
		return alone(s.graph)
	case "unify":
		return alone(s.unify)
	case "general":
		return alone(s.general)
	case "normal":
		return withWord(normal)
	}
	return nil
}

// edges lists the quarrels. Maps are listed in any order: so it sorts them.
func (s *Shop) edges() [][2]int {
	var l [][2]int
	for e := range s.quarrels {
		l = append(l, e)
	}
	slices.SortFunc(l, func(d, e [2]int) int {
		return slices.Compare(d[:], e[:])
	})
	return l
}

func (s *Shop) least() (string, api.Errno) {
	n, e := ferry.Least(passengers, s.edges())
	return numbered(e, "least", n)
}

func (s *Shop) trips(seats int) (string, api.Errno) {
	plan, ok, e := ferry.Plan(passengers, s.edges(), seats)
	if e == api.OK && !ok {
		return "trips none", api.OK
	}
	return numbered(e, "trips", len(plan))
}

func (s *Shop) hues() (string, api.Errno) {
	l, e := hue.Fewest(passengers, s.edges())
	return numbered(e, "hues", different(l))
}

func (s *Shop) apart() (string, api.Errno) {
	shape, e := part.Shape(passengers, s.edges())
	if e == api.ErrCograph {
		return "apart no", api.OK
	}
	return answer(e, "apart "+shape)
}

func (s *Shop) trees(word string) (string, api.Errno) {
	n, e := gram.Count(s.rules, word)
	return numbered(e, "trees", n)
}

func (s *Shop) value() (string, api.Errno) {
	p, q, e := tangle.Value(s.rope)
	return numbered(e, "value", p, q)
}

func (s *Shop) knot() (string, api.Errno) {
	p, q, e := tangle.Value(s.rope)
	if e != api.OK {
		return "", e
	}
	n, m, e := tangle.Close(p, q, 0, 1)
	return numbered(e, "knot", n, m)
}

func (s *Shop) boats() (string, api.Errno) {
	l, peak, e := shift.Boats(s.shifts)
	return numbered(e, "boats", different(l), peak)
}

func (s *Shop) magnitude() (string, api.Errno) {
	p, e := shift.FromIntervals(s.shifts)
	if e != api.OK {
		return "", e
	}
	n, e := shift.Magnitude(p)
	return numbered(e, "magnitude", n)
}

func (s *Shop) kings() (string, api.Errno) {
	t, e := s.regatta()
	if e != api.OK {
		return "", e
	}
	l, e := score.Kings(t)
	return numbered(e, "kings", l...)
}

func (s *Shop) rounds() (string, api.Errno) {
	t, e := s.regatta()
	if e != api.OK {
		return "", e
	}
	n, e := score.Triples(t)
	return numbered(e, "rounds", n)
}

// regatta returns the table of all results, or ErrState if some are not known: only that keeps the table from being a regatta's, as no result is taken twice.
func (s *Shop) regatta() ([][]bool, api.Errno) {
	t := make([][]bool, racers)
	for i := range t {
		t[i] = slices.Clone(s.beaten[i][:])
	}
	if score.Check(t) != api.OK {
		return nil, api.ErrState
	}
	return t, api.OK
}

func (s *Shop) graph() (string, api.Errno) {
	k, ok, e := score.Violation(s.degrees)
	if e == api.OK && !ok {
		return "graph yes", api.OK
	}
	return numbered(e, "graph", k)
}

func (s *Shop) unify() (string, api.Errno) {
	_, ok, e := term.Unify(s.terms[0], s.terms[1])
	if e == api.OK && !ok {
		return "unify no", api.OK
	}
	return answer(e, "unify yes")
}

func (s *Shop) general() (string, api.Errno) {
	t, e := term.Generalize(s.terms[0], s.terms[1])
	return answer(e, "general "+t)
}

func normal(word string) (string, api.Errno) {
	form, e := beta.Index(word)
	if e != api.OK {
		return "", e
	}
	form, n, ok, e := beta.Normal(form, maxSteps)
	if e == api.OK && !ok {
		return "normal none", api.OK
	}
	return numbered(e, "normal "+form, n)
}

// different returns how many different numbers the list has.
func different(l []int) int {
	return len(slices.Compact(slices.Sorted(slices.Values(l))))
}
