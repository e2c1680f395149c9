package beta_test

import (
	"math/rand"
	"strconv"
	"strings"
)

// A tree is a term as the chapter defines it, for slow and plain comparisons with the package: an abstraction (`\`), an application (`(`), a letter or a number.
type tree struct {
	head        string
	left, right *tree
}

func leaf(s string) *tree         { return &tree{head: s} }
func abs(body *tree) *tree        { return &tree{`\`, body, nil} }
func app(left, right *tree) *tree { return &tree{"(", left, right} }

func (x *tree) isNumber() bool { return x.head[0] >= '0' && x.head[0] <= '9' }
func (x *tree) isRedex() bool  { return x.head == "(" && x.left.head == `\` }

func (x *tree) String() string {
	switch x.head {
	case `\`:
		return `\` + x.left.String()
	case "(":
		return "(" + x.left.String() + " " + x.right.String() + ")"
	}
	return x.head
}

// treeOf reads a right form, or a right combinator.
func treeOf(s string) *tree {
	x, rest := split(s)
	if rest != "" {
		panic(s)
	}
	return x
}

func split(s string) (*tree, string) {
	switch s[0] {
	case '\\':
		body, rest := split(s[1:])
		return abs(body), rest
	case '(':
		left, rest := split(s[1:])
		right, rest := split(rest[1:])
		return app(left, right), rest[1:]
	}
	end := 1
	for s[0] <= '9' && end < len(s) && s[end] >= '0' && s[end] <= '9' {
		end++
	}
	return leaf(s[:end]), s[end:]
}

// shift adds by to the numbers of x that are bound outside of it.
func (x *tree) shift(by, inside int) *tree {
	switch {
	case x.head == `\`:
		return abs(x.left.shift(by, inside+1))
	case x.head == "(":
		return app(x.left.shift(by, inside), x.right.shift(by, inside))
	case x.isNumber():
		if n, _ := strconv.Atoi(x.head); n >= inside {
			return leaf(strconv.Itoa(n + by))
		}
	}
	return x
}

// put is x with n in place of the variable that is bound by the abstraction around it.
func (x *tree) put(n *tree, inside int) *tree {
	switch {
	case x.head == `\`:
		return abs(x.left.put(n, inside+1))
	case x.head == "(":
		return app(x.left.put(n, inside), x.right.put(n, inside))
	case x.isNumber():
		i, _ := strconv.Atoi(x.head)
		if i == inside {
			return n.shift(inside, 0)
		}
		if i > inside {
			return leaf(strconv.Itoa(i - 1))
		}
	}
	return x
}

func contract(body, n *tree) *tree { return body.put(n, 0) }

// steps are all terms to which one step leads from x, by the places of the redexes.
func (x *tree) steps() []*tree {
	var out []*tree
	if x.isRedex() {
		out = append(out, contract(x.left.left, x.right))
	}
	switch x.head {
	case `\`:
		for _, y := range x.left.steps() {
			out = append(out, abs(y))
		}
	case "(":
		for _, y := range x.left.steps() {
			out = append(out, app(y, x.right))
		}
		for _, y := range x.right.steps() {
			out = append(out, app(x.left, y))
		}
	}
	return out
}

// parallel is all terms to which a parallel step leads from x: within a redex first.
func (x *tree) parallel() []*tree {
	switch x.head {
	case `\`:
		var out []*tree
		for _, y := range x.left.parallel() {
			out = append(out, abs(y))
		}
		return out
	case "(":
		var out []*tree
		for _, l := range x.left.parallel() {
			for _, r := range x.right.parallel() {
				out = append(out, app(l, r))
				if x.isRedex() {
					out = append(out, contract(l.left, r))
				}
			}
		}
		return out
	}
	return []*tree{x}
}

func (x *tree) develop() *tree {
	switch x.head {
	case `\`:
		return abs(x.left.develop())
	case "(":
		l, r := x.left.develop(), x.right.develop()
		if x.isRedex() {
			return contract(l.left, r)
		}
		return app(l, r)
	}
	return x
}

// translate is the translation of x, with the names of the abstractions around it, the innermost last.
func (x *tree) translate(names []string) *tree {
	switch {
	case x.head == `\`:
		name := "x" + strconv.Itoa(len(names))
		return x.left.translate(append(names[:len(names):len(names)], name)).without(name)
	case x.head == "(":
		return app(x.left.translate(names), x.right.translate(names))
	case x.isNumber():
		i, _ := strconv.Atoi(x.head)
		return leaf(names[len(names)-1-i])
	}
	return x
}

func (x *tree) has(name string) bool {
	return x.head == name || x.head == "(" && (x.left.has(name) || x.right.has(name))
}

func (x *tree) without(name string) *tree {
	switch {
	case x.head == name:
		return leaf("I")
	case !x.has(name):
		return app(leaf("K"), x)
	}
	return app(app(leaf("S"), x.left.without(name)), x.right.without(name))
}

// weak is x, a combinator, after its first weak step.
func (x *tree) weak() (*tree, bool) {
	if x.head != "(" {
		return x, false
	}
	f := x.left
	if f.head == "I" {
		return x.right, true
	}
	if f.head == "(" && f.left.head == "K" {
		return f.right, true
	}
	if f.head == "(" && f.left.head == "(" && f.left.left.head == "S" {
		return app(app(f.left.right, x.right), app(f.right, x.right)), true
	}
	if l, ok := f.weak(); ok {
		return app(l, x.right), true
	}
	if r, ok := x.right.weak(); ok {
		return app(f, r), true
	}
	return x, false
}

// term is the term of x, a combinator.
func (x *tree) term() *tree {
	switch x.head {
	case "S":
		return treeOf(`\\\((2 0) (1 0))`)
	case "K":
		return treeOf(`\\1`)
	case "I":
		return treeOf(`\0`)
	case "(":
		return app(x.left.term(), x.right.term())
	}
	return x
}

// levels is how deep x is.
func (x *tree) levels() int {
	switch x.head {
	case `\`:
		return 1 + x.left.levels()
	case "(":
		return 1 + max(x.left.levels(), x.right.levels())
	}
	return 0
}

// randomTree is a term of that many leaves within that many abstractions, with many redexes.
func randomTree(r *rand.Rand, leaves, around int) *tree {
	switch {
	case r.Intn(4) == 0 && around < 6:
		return abs(randomTree(r, leaves, around+1))
	case leaves > 1:
		k := 1 + r.Intn(leaves-1)
		left := randomTree(r, k, around)
		if r.Intn(2) == 0 {
			left = abs(randomTree(r, k, around+1))
		}
		return app(left, randomTree(r, leaves-k, around))
	case around > 0 && r.Intn(4) > 0:
		return leaf(strconv.Itoa(r.Intn(around)))
	}
	return leaf(string(rune('x' + r.Intn(3))))
}

// randomCombinator is a combinator of that many leaves.
func randomCombinator(r *rand.Rand, leaves int) *tree {
	if leaves == 1 {
		return leaf(string("SSSKKIab"[r.Intn(8)]))
	}
	k := 1 + r.Intn(leaves-1)
	return app(randomCombinator(r, k), randomCombinator(r, leaves-k))
}

// randomLambda is a lambda term, with its index form. The letters around it are those of the abstractions, the innermost last.
func randomLambda(r *rand.Rand, leaves int, around string) (string, *tree) {
	if r.Intn(3) == 0 && len(around) < 8 {
		x := string("abcxyz"[r.Intn(6)])
		s, t := randomLambda(r, leaves, around+x)
		return `\` + x + "." + s, abs(t)
	}
	var s string
	var t *tree
	for leaves > 0 {
		k := 1 + r.Intn(leaves)
		var atom string
		var part *tree
		if k == 1 && r.Intn(3) > 0 {
			atom = string("abcxyz"[r.Intn(6)])
			part = leaf(atom)
			if at := strings.LastIndex(around, atom); at >= 0 {
				part = leaf(strconv.Itoa(len(around) - 1 - at))
			}
		} else {
			atom, part = randomLambda(r, k, around)
			atom = "(" + atom + ")"
		}
		leaves -= k
		s += atom
		if t == nil {
			t = part
		} else {
			t = app(t, part)
		}
	}
	return s, t
}
