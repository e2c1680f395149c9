package beta

import (
	"iter"

	"forcola/api"
)

// A scope is what stands for the numbers of a term, the innermost first. What is substituted is given the number of abstractions around the place, by which it shifts what is bound outside.
type scope struct {
	at    func(depth int) node
	outer *scope
}

// find returns what stands for n at that depth. What is bound outside of all scopes keeps its binder.
func (s *scope) find(n number, depth int) node {
	for s != nil {
		if n == 0 {
			return s.at(depth)
		}
		n--
		s = s.outer
	}
	return n + number(depth)
}

// A contractor does a parallel step. It builds each part where it is needed and not before: an abstraction may drop an argument whose development is far too large for any form.
type contractor struct {
	chosen func(*application) bool
	built  int
}

// build counts what becomes a part of the result, and leaves where that can be no form.
func (c *contractor) build() {
	c.built++
	if c.built > maxForm {
		panic(api.ErrLarge)
	}
}

// contract returns what n, in that scope, becomes within that many abstractions.
func (c *contractor) contract(n node, in *scope, depth int) node {
	switch n := n.(type) {
	case number:
		return in.find(n, depth)
	case *abstraction:
		c.build()
		bound := func(d int) node { return number(d - depth - 1) }
		return newAbstraction(c.contract(n.body, &scope{bound, in}, depth+1))
	case *application:
		f, ok := n.left.(*abstraction)
		if ok && c.chosen(n) {
			argument := func(d int) node { return c.contract(n.right, in, d) }
			return c.contract(f.body, &scope{argument, in}, depth)
		}
		c.build()
		left := c.contract(n.left, in, depth)
		right := c.contract(n.right, in, depth)
		return newApplication(pair[node]{left, right})
	}
	return n
}

// parallel returns what n becomes by the parallel step that contracts the chosen redexes.
func parallel(n node, chosen func(*application) bool) node {
	c := contractor{chosen: chosen}
	return c.contract(n, nil, 0)
}

// contraction returns what n becomes if it is a redex itself.
func contraction(n node) (node, bool) {
	redex, ok := n.(*application)
	if !ok || !redex.isRedex() {
		return nil, false
	}
	return parallel(redex, func(a *application) bool { return a == redex }), true
}

// choices yields each set of some of the redexes.
func choices(redexes []*application) iter.Seq[map[*application]bool] {
	return func(yield func(map[*application]bool) bool) {
		for bits := range 1 << len(redexes) {
			chosen := map[*application]bool{}
			for i, r := range redexes {
				chosen[r] = bits>>i&1 == 1
			}
			if !yield(chosen) {
				return
			}
		}
	}
}

// lambda is the calculus of terms.
func lambda() calculus[node] {
	return calculus[node]{size{bytes: maxForm, levels: maxLevels}, node.measure, contraction, holesOf, write}
}

func holesOf(n node) []hole[node] {
	switch n := n.(type) {
	case *abstraction:
		return []hole[node]{{n.body, func(p node) node { return newAbstraction(p) }}}
	case *application:
		return []hole[node]{
			{n.left, func(p node) node { return newApplication(pair[node]{p, n.right}) }},
			{n.right, func(p node) node { return newApplication(pair[node]{n.left, p}) }},
		}
	}
	return nil
}

// redexesOf are the redexes of n.
func redexesOf(n node) []*application {
	var found []*application
	for part := range all(lambda(), n) {
		if a, ok := part.(*application); ok && a.isRedex() {
			found = append(found, a)
		}
	}
	return found
}
