package term

import "strings"

const (
	maxRules = 12 // of Orient
	maxNames = 6  // of Orient
)

// A verdict has a bit for each precedence that is tried: 6 names have 720. So terms are compared once, and not once for each precedence.
type verdict [12]uint64

func (v verdict) and(w verdict) verdict {
	for i := range v {
		v[i] &= w[i]
	}
	return v
}

func (v verdict) or(w verdict) verdict {
	for i := range v {
		v[i] |= w[i]
	}
	return v
}

func (v verdict) has(i int) bool {
	return v[i/64]>>(i%64)&1 == 1
}

// with is v and the bit i.
func (v verdict) with(i int) verdict {
	v[i/64] |= 1 << (i % 64)
	return v
}

// A trial compares terms by the path orders of several precedences.
type trial struct {
	all   verdict
	above func(name, less string) verdict // the precedences in which name comes before less
	known map[pair]verdict                // by which the left term is greater than the right one
}

func newTrial(all verdict, above func(name, less string) verdict) *trial {
	return &trial{all: all, above: above, known: map[pair]verdict{}}
}

// byRank has one precedence: the lesser rank comes first.
func byRank(rank map[string]int) *trial {
	one := verdict{}.with(0)
	return newTrial(one, func(name, less string) verdict {
		if rank[name] < rank[less] {
			return one
		}
		return verdict{}
	})
}

// survey returns all of the precedences, and those in which a name comes before another one.
func survey(orders [][]string) (all verdict, above map[pair]verdict) {
	above = map[pair]verdict{}
	for k, order := range orders {
		all = all.with(k)
		for i, name := range order {
			for _, less := range order[i+1:] {
				p := pair{name, less}
				above[p] = above[p].with(k)
			}
		}
	}
	return all, above
}

// fitting says by which of the precedences every even term is greater than the one after it. Each rule is a trial of its own, for the sake of memory.
func fitting(orders [][]string, terms []node) verdict {
	all, above := survey(orders)
	fits := all
	for i := 0; i < len(terms); i += 2 {
		t := newTrial(all, func(name, less string) verdict {
			return above[pair{name, less}]
		})
		greater := t.greater(terms[i], terms[i+1])
		fits = fits.and(greater)
	}
	return fits
}

// greater says by which precedences s is greater than u.
func (t *trial) greater(s, u node) verdict {
	x, ok := s.(*call)
	if !ok {
		return verdict{}
	}
	p := pair{s.text(), u.text()}
	if v, ok := t.known[p]; ok {
		return v
	}
	v := t.decide(x, u)
	t.known[p] = v
	return v
}

// decide compares x with u, each case of the definition adding to the others.
func (t *trial) decide(x *call, u node) verdict {
	if v, ok := u.(variable); ok {
		// Names have no capital letters: where the letter is, there is the variable.
		if strings.Contains(x.text(), v.text()) {
			return t.all
		}
		return verdict{}
	}
	v := verdict{}
	for _, a := range x.args {
		if a.text() == u.text() {
			return t.all
		}
		above := t.greater(a, u)
		v = v.or(above)
	}
	if y, ok := u.(*call); ok && v != t.all {
		above := t.byName(x, y)
		v = v.or(above)
	}
	return v
}

// byName compares x and y by their names, or their arguments if these are the same; x has to be greater than all arguments of y, too.
func (t *trial) byName(x, y *call) verdict {
	v := t.above(x.name, y.name)
	if x.name == y.name {
		v = t.byArguments(x, y)
	}
	for _, a := range y.args {
		if v == (verdict{}) {
			break
		}
		above := t.greater(x, a)
		v = v.and(above)
	}
	return v
}

// byArguments compares the first arguments that differ.
func (t *trial) byArguments(x, y *call) verdict {
	for a, b := range pairs(x, y) {
		if a.text() != b.text() {
			return t.greater(a, b)
		}
	}
	return verdict{}
}

// precedences are all the lists that have each of the names once.
func precedences(names []string) [][]string {
	var all [][]string
	var grow func(order []string)
	grow = func(order []string) {
		if len(order) == len(names) {
			all = append(all, order)
			return
		}
	next:
		for _, name := range names {
			for _, taken := range order {
				if taken == name {
					continue next
				}
			}
			// Cut to its length, so that the lists that begin in the same way have no memory in common.
			grow(append(order[:len(order):len(order)], name))
		}
	}
	grow(nil)
	return all
}

// namesOf are the names of the terms, each once.
func namesOf(terms ...node) []string {
	var names []string
	seen := map[string]bool{}
	for _, n := range terms {
		for part := range parts(n) {
			if c, ok := part.(*call); ok && !seen[c.name] {
				seen[c.name] = true
				names = append(names, c.name)
			}
		}
	}
	return names
}
