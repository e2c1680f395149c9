package gram

import "slices"

// A set is marks for symbols, and for `$`.
type set [128]bool

// hasAll reports whether each of the symbols is in the set.
func (s *set) hasAll(symbols string) bool {
	for i := range len(symbols) {
		if !s[symbols[i]] {
			return false
		}
	}
	return true
}

// add puts the symbols into the set.
func (s *set) add(symbols string) {
	for i := range len(symbols) {
		s[symbols[i]] = true
	}
}

// join puts the elements of t into the set.
func (s *set) join(t set) {
	for i, in := range t {
		s[i] = s[i] || in
	}
}

// text is the elements in the order of bytes, in which `$` comes before all letters.
func (s set) text() string {
	var list []byte
	for i, in := range s {
		if in {
			list = append(list, byte(i))
		}
	}
	return string(list)
}

// becoming is the set, and all nonterminals that can become a string of symbols of the set.
func (g grammar) becoming(s set) set {
	for {
		before := s
		for _, r := range g {
			if s.hasAll(r.right) {
				s.add(r.left)
			}
		}
		if s == before {
			return s
		}
	}
}

func (g grammar) nullable() set { return g.becoming(set{}) }

// productive is all terminals, and the nonterminals that have a tree.
func (g grammar) productive() set {
	var s set
	for letter := 'a'; letter <= 'z'; letter++ {
		s[letter] = true
	}
	return g.becoming(s)
}

// reachable is all symbols that can be reached from start.
func (g grammar) reachable(start string) set {
	var s set
	s.add(start)
	for {
		before := s
		for _, r := range g {
			if s.hasAll(r.left) {
				s.add(r.right)
			}
		}
		if s == before {
			return s
		}
	}
}

// clean is the rules that some tree of a word contains, one of the start symbol first; none, if there is no word.
func (g grammar) clean() grammar {
	productive := g.productive()
	var kept grammar
	for _, r := range g {
		if productive.hasAll(r.left + r.right) {
			kept = append(kept, r)
		}
	}
	reachable := kept.reachable(g.start())
	kept = slices.DeleteFunc(kept, func(r rule) bool { return !reachable.hasAll(r.left) })
	first := slices.IndexFunc(kept, func(r rule) bool { return r.left == g.start() })
	if first > 0 {
		r := kept[first]
		kept = slices.Insert(slices.Delete(kept, first, first+1), 0, r)
	}
	return kept
}
