package term_test

import (
	"slices"
	"strings"
	"testing"

	"forcola/api"
	"forcola/term"
)

// P1.2: images.
func TestApply(t *testing.T) {
	for _, x := range []struct {
		s    string
		u    []term.Bind
		want string
	}{
		{"f(X,Y)", binds("X", "g(Y)", "Y", "a"), "f(g(Y),a)"}, // at the same time
		{"f(X,Y)", binds("X", "Y", "Y", "X"), "f(Y,X)"},
		{"f(X,g(X))", binds("X", "h(X)"), "f(h(X),g(h(X)))"},
		{"X", nil, "X"}, {"X", binds("X", "a"), "a"}, {"X", binds("Y", "a"), "X"}, {"a", binds("A", "b", "Z", "c"), "a"}, {"f(A,Z)", binds("A", "b", "Z", "c"), "f(b,c)"},
	} {
		if s, e := term.Apply(x.s, x.u); s != x.want || e != api.OK {
			t.Errorf("Apply of %v to %s: %s, %d", x.u, x.s, s, e)
		}
	}
}

// P1.2: what is no substitution.
func TestApplyOfNoSubstitution(t *testing.T) {
	var many []term.Bind
	for range 1000 {
		many = append(many, term.Bind{Var: "X", Term: "a"})
	}
	for _, u := range [][]term.Bind{binds("Y", "a", "X", "a"), binds("X", "a", "X", "a"), binds("X", "X"), binds("A", "b", "X", "X"), binds("x", "a"), binds("", "a"), binds("XX", "a"), binds("XY", "a"), binds("f(X)", "a"), binds("[", "a"), binds("@", "a"), binds("\xff", "a"), many} {
		if s, e := term.Apply("f(X)", u); s != "" || e != api.ErrArg {
			t.Errorf("Apply of %v: %q, %d", u, s, e)
		}
		if term.IsUnifier("a", "a", u) {
			t.Errorf("IsUnifier of %v", u)
		}
	}
	large := "f(" + strings.Repeat("X,", 400) + "X)"
	if s, e := term.Apply(large, binds("X", "abcdef", "A", "a")); s != "" || e != api.ErrArg {
		t.Errorf("Apply of a list that does not rise to a term that becomes too large: %q, %d", s, e)
	}
}

// P1.2: the limits of an image.
func TestApplyLimits(t *testing.T) {
	for _, x := range []struct {
		s    string
		u    []term.Bind
		want api.Errno
	}{
		{"g(X)", binds("X", flat("f", api.MaxTerm-3)), api.OK}, {"g(X)", binds("X", flat("f", api.MaxTerm-2)), api.ErrLarge}, {"g(a)", binds("X", flat("f", api.MaxTerm)), api.OK}, {"X", binds("X", flat("f", api.MaxTerm)), api.OK},
		{"f(" + strings.Repeat("X,", 498) + "X)", binds("X", "aa"), api.ErrLarge}, {"f(" + strings.Repeat("X,", 498) + "X)", binds("X", flat("g", api.MaxTerm)), api.ErrLarge},
		{deep(10, "X"), binds("X", deep(11, "X")), api.OK}, {deep(10, "X"), binds("X", deep(12, "X")), api.ErrLarge}, {deep(20, "X"), binds("X", "a"), api.OK}, {deep(20, "X"), binds("X", "s(a)"), api.ErrLarge}, {deep(20, "Y"), binds("X", deep(20, "X")), api.OK},
	} {
		if s, e := term.Apply(x.s, x.u); e != x.want || (s == "") != (e != api.OK) {
			t.Errorf("Apply of %.60v to %.20s: %.20q, %d, not %d", x.u, x.s, s, e, x.want)
		}
	}
}

// P1.2: matching.
func TestMatch(t *testing.T) {
	for _, x := range []struct {
		s, t string
		want []term.Bind
	}{
		{"f(X,Y,X)", "f(a,Y,a)", binds("X", "a")}, {"f(Y,X)", "f(X,Y)", binds("X", "Y", "Y", "X")}, {"f(Y,X)", "f(g(Y),a)", binds("X", "a", "Y", "g(Y)")}, {"X", "X", nil}, {"a", "a", nil}, {"X", flat("f", api.MaxTerm), binds("X", flat("f", api.MaxTerm))}, {"f(X,X)", "f(g(Z),g(Z))", binds("X", "g(Z)")},
	} {
		if u, ok, e := term.Match(x.s, x.t); !slices.Equal(u, x.want) || !ok || e != api.OK {
			t.Errorf("Match of %s and %.40s: %.60v, %t, %d", x.s, x.t, u, ok, e)
		}
	}
	for _, x := range [][2]string{{"f(X,X)", "f(a,b)"}, {"f(X,X)", "f(X,Y)"}, {"f(X,X)", "f(a,X)"}, {"f(X,X)", "f(X,a)"}, {"a", "X"}, {"a", "b"}, {"f(X)", "g(X)"}, {"f(X)", "X"}, {"f(a)", "f(X)"}, {"f(X,Y)", "Y"}} {
		if u, ok, e := term.Match(x[0], x[1]); len(u) != 0 || ok || e != api.OK {
			t.Errorf("Match of %v: %v, %t, %d", x, u, ok, e)
		}
	}
}

// P1.2, P1.6: Match finds a substitution just if there is one, and only variables of s are bound.
func TestMatchOfImages(t *testing.T) {
	m := newMaker(2, "XYZ", "a0", "b0", "f1", "g2")
	found := 0
	for range 3000 {
		s := m.term(4)
		image := apply(t, s, m.substitution("XYZ", 3))
		u, ok, e := term.Match(s, image)
		if !ok || e != api.OK || apply(t, s, u) != image {
			t.Fatalf("Match of %s and %s: %v, %t, %d", s, image, u, ok, e)
		}
		for _, b := range u {
			if !strings.Contains(s, b.Var) {
				t.Fatalf("Match of %s and %s: %v", s, image, u)
			}
		}
		// any two terms: a match is a unifier of s and of the other term with its own variables taken for names
		other := m.term(4)
		ground := strings.NewReplacer("X", "x", "Y", "y", "Z", "z").Replace(other)
		if isMoreGeneral(t, s, other) != unifiable(s, ground) {
			t.Fatalf("Match of %s and %s", s, other)
		}
		if unifiable(s, ground) {
			found++
		}
	}
	if found < 100 || found > 2900 {
		t.Errorf("%d matches of 3000", found)
	}
}
