package beta

import (
	"strconv"
	"strings"
)

// The limits of forms.
const (
	maxForm   = 20000
	maxLevels = 2000
)

// A size is what is known of a term or a combinator without looking at its parts: of a tree, these would have to be counted anew at each step.
type size struct {
	bytes, levels, redexes int
}

// within is the size of something that has the sign bytes around its parts, and is one level deeper.
func within(signs int, parts ...size) size {
	all := size{bytes: signs}
	for _, p := range parts {
		all.bytes += p.bytes
		all.levels = max(all.levels, p.levels)
		all.redexes += p.redexes
	}
	all.levels++
	return all
}

// A pair is what an application consists of, be it of terms or of combinators.
type pair[T any] struct {
	left, right T
}

// A node is a term: a letter, a number, an abstraction or an application.
type node interface {
	measure() size
}

// A letter is a free letter.
type letter byte

// A number is a bound letter.
type number int

type abstraction struct {
	body node
	size size
}

type application struct {
	pair[node]
	size size
}

func newAbstraction(body node) *abstraction {
	return &abstraction{body, within(len(`\`), body.measure())}
}

func newApplication(p pair[node]) *application {
	a := &application{p, within(len("( )"), p.left.measure(), p.right.measure())}
	if a.isRedex() {
		a.size.redexes++
	}
	return a
}

func (l letter) measure() size { return size{bytes: 1} }

func (n number) measure() size { return size{bytes: len(strconv.Itoa(int(n)))} }

func (a *abstraction) measure() size { return a.size }

func (a *application) measure() size { return a.size }

func (a *application) isRedex() bool {
	_, ok := a.left.(*abstraction)
	return ok
}

func write(b *strings.Builder, n node) {
	switch n := n.(type) {
	case letter:
		b.WriteByte(byte(n))
	case number:
		b.WriteString(strconv.Itoa(int(n)))
	case *abstraction:
		b.WriteByte('\\')
		write(b, n.body)
	case *application:
		b.WriteByte('(')
		write(b, n.left)
		b.WriteByte(' ')
		write(b, n.right)
		b.WriteByte(')')
	}
}
