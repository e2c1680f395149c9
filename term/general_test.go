package term_test

import (
	"fmt"
	"strings"
	"testing"

	"forcola/api"
	"forcola/term"
)

// generalize is Generalize where it has to succeed.
func generalize(t *testing.T, s, u string) string {
	t.Helper()
	g, e := term.Generalize(s, u)
	if e != api.OK {
		t.Fatalf("Generalize of %s and %s: %d", s, u, e)
	}
	return g
}

// P1.4: generalizations.
func TestGeneralize(t *testing.T) {
	for _, x := range [][3]string{
		{"f(a,a)", "f(b,b)", "f(A,A)"}, {"f(a,b)", "f(b,a)", "f(A,B)"}, {"f(X,g(X))", "f(a,g(a))", "f(A,g(A))"}, {"a", "a", "a"}, {"a", "b", "A"}, {"a", "X", "A"}, {"X", "X", "A"}, {"Z", "Y", "A"}, {"f(X,Y)", "f(X,X)", "f(A,B)"}, {"f(Z,Y,Z)", "f(Z,Y,Z)", "f(A,B,A)"},
		{"f(g(a),h(b))", "f(g(b),k(b,c))", "f(g(A),B)"}, {"f(g(a),a,g(a))", "f(h(a),b,h(a))", "f(A,B,A)"}, {"f(g(a))", "f(h(a))", "f(A)"}, {"f(a,g(a,b))", "f(b,g(b,a))", "f(A,g(A,B))"},
		{flat("f", api.MaxTerm), flat("f", api.MaxTerm), flat("f", api.MaxTerm)}, {deep(20, "a"), deep(20, "b"), deep(20, "A")},
	} {
		if g := generalize(t, x[0], x[1]); g != x[2] {
			t.Errorf("Generalize of %.40s and %.40s: %.40s", x[0], x[1], g)
		}
	}
}

// P1.4: 26 variables, and one more.
func TestGeneralizeTooManyVariables(t *testing.T) {
	row := func(letter string, n int) string {
		var l []string
		for i := range n {
			l = append(l, fmt.Sprintf("%s%c", letter, 'a'+i%26)+strings.Repeat("z", i/26))
		}
		return "f(" + strings.Join(l, ",") + ")"
	}
	if g, e := term.Generalize(row("a", 26), row("b", 26)); g != "f(A,B,C,D,E,F,G,H,I,J,K,L,M,N,O,P,Q,R,S,T,U,V,W,X,Y,Z)" || e != api.OK {
		t.Errorf("Generalize to 26 variables: %s, %d", g, e)
	}
	for _, n := range []int{27, 40, 100} {
		if g, e := term.Generalize(row("a", n), row("b", n)); g != "" || e != api.ErrArg {
			t.Errorf("Generalize to %d variables: %s, %d", n, g, e)
		}
	}
	// 26 variables against 26 names in another order for each variable: pairs count, not letters
	s := "f(" + strings.Repeat("X,", 26) + "X)"
	if g, e := term.Generalize(s, row("b", 27)); g != "" || e != api.ErrArg {
		t.Errorf("Generalize of one variable and 27 names: %s, %d", g, e)
	}
	if g, e := term.Generalize(s, s); g != strings.ReplaceAll(s, "X", "A") || e != api.OK {
		t.Errorf("Generalize of one variable: %s, %d", g, e)
	}
}

// P1.4, P1.7: more general than both, and every term that is so is more general than it; symmetric, associative, canonical.
func TestGeneralizeIsLeast(t *testing.T) {
	m := newMaker(5, "XY", "a0", "b0", "f1", "g2")
	compared := 0
	for range 3000 {
		s, u, v := m.term(4), m.term(4), m.term(4)
		g := generalize(t, s, u)
		if c, _ := term.Canon(g); c != g || !isMoreGeneral(t, g, s) || !isMoreGeneral(t, g, u) {
			t.Fatalf("Generalize of %s and %s: %s", s, u, g)
		}
		if generalize(t, u, s) != g {
			t.Fatalf("Generalize of %s and %s is not symmetric", s, u)
		}
		if generalize(t, g, v) != generalize(t, s, generalize(t, u, v)) {
			t.Fatalf("Generalize of %s, %s and %s is not associative", s, u, v)
		}
		image := apply(t, s, m.substitution("XY", 3))
		if c, _ := term.Canon(s); generalize(t, s, image) != c || generalize(t, image, s) != c {
			t.Fatalf("Generalize of %s and its image %s: not %s", s, image, c)
		}
		for range 20 {
			if x := m.term(3); isMoreGeneral(t, x, s) && isMoreGeneral(t, x, u) {
				compared++
				if !isMoreGeneral(t, x, g) {
					t.Fatalf("Generalize of %s and %s: %s, but %s is more general than both", s, u, g, x)
				}
			}
		}
	}
	if compared < 1000 {
		t.Errorf("only %d terms were more general than both", compared)
	}
}
