package term_test

import (
	"slices"
	"strings"
	"testing"

	"forcola/api"
	"forcola/term"
)

// isMostGeneral reports whether u has the form that the chapter asks for; that it is more general than others is compared apart.
func isMostGeneral(t *testing.T, s, v string, u []term.Bind) bool {
	t.Helper()
	if !term.IsUnifier(s, v, u) {
		return false
	}
	for _, b := range u {
		vars, _ := term.Vars(b.Term)
		if !strings.Contains(s+v, b.Var) || strings.Trim(vars, s+v) != "" || apply(t, b.Term, u) != b.Term {
			return false
		}
	}
	return true
}

// P1.3: unifiers, and none.
func TestUnify(t *testing.T) {
	for _, x := range []struct {
		s, t string
		want []term.Bind
	}{
		{"f(X,g(a))", "f(h(Y),Y)", binds("X", "h(g(a))", "Y", "g(a)")}, {"a", "a", nil}, {"X", "X", nil}, {"f(X,Y)", "f(X,Y)", nil}, {"X", "a", binds("X", "a")}, {"a", "X", binds("X", "a")}, {"f(Z,Y,X)", "f(a,Z,Y)", binds("X", "a", "Y", "a", "Z", "a")}, {"f(X,X)", "f(g(Y),g(a))", binds("X", "g(a)", "Y", "a")}, {"f(X,Y,X)", "f(g(Y),a,g(Z))", binds("X", "g(a)", "Y", "a", "Z", "a")},
	} {
		if u, ok, e := term.Unify(x.s, x.t); !slices.Equal(u, x.want) || !ok || e != api.OK {
			t.Errorf("Unify of %s and %s: %v, %t, %d", x.s, x.t, u, ok, e)
		}
	}
	for _, x := range [][2]string{{"X", "Y"}, {"f(X,Y,Z)", "f(Y,Z,X)"}, {"f(X,g(Y),X)", "f(g(Z),Z,g(W))"}, {"f(X,Y)", "f(g(Z),g(W))"}, {"f(g(X),g(Y),X)", "f(g(Y),g(Z),Z)"}} {
		if u, ok, e := term.Unify(x[0], x[1]); !ok || e != api.OK || !isMostGeneral(t, x[0], x[1], u) {
			t.Errorf("Unify of %v: %v, %t, %d", x, u, ok, e)
		}
	}
	for _, x := range [][2]string{{"f(X,X)", "f(Y,g(Y))"}, {"a", "b"}, {"f(X)", "g(X)"}, {"f(X)", "a"}, {"X", "f(X)"}, {"f(X)", "X"}, {"f(X,Y)", "f(g(Y),g(X))"}, {"f(a,X)", "f(X,b)"}, {"f(X,Y,Z)", "f(g(Y),g(Z),g(X))"}, {"f(X,Y,X)", "f(Y,X,g(Y))"}} {
		if u, ok, e := term.Unify(x[0], x[1]); len(u) != 0 || ok || e != api.OK {
			t.Errorf("Unify of %v: %v, %t, %d", x, u, ok, e)
		}
	}
}

// doubling are arguments of which each makes a variable to two of the one before it: the last one has 4096 leaves.
func doubling() (l, r string) {
	for i := range 12 {
		a, b := string(rune('A'+i)), string(rune('B'+i))
		l += "," + b
		r += ",f(" + a + "," + a + ")"
	}
	return l, r
}

// P1.3: the limits of a unifier's terms.
func TestUnifyLimits(t *testing.T) {
	l, r := doubling()
	whole := flat("f", api.MaxTerm-10)
	for _, x := range []struct {
		s, t string
		want api.Errno
		ok   bool
	}{
		{"h(X,Y)", "h(k(Y,Y)," + flat("f", 498) + ")", api.OK, true}, {"h(X,Y)", "h(kk(Y,Y)," + flat("f", 498) + ")", api.ErrLarge, false}, {"h(k(Y,Y),Y)", "h(X," + flat("f", 498) + ")", api.OK, true}, {"h(kk(Y,Y),Y)", "h(X," + flat("f", 498) + ")", api.ErrLarge, false},
		{"h(kk(Y,Y),Y)", "h(kk(X,X)," + flat("f", 498) + ")", api.OK, true}, // what is too large is bound to no variable
		{"h(X,Y)", "h(" + deep(10, "Y") + "," + deep(11, "a") + ")", api.OK, true}, {"h(X,Y)", "h(" + deep(10, "Y") + "," + deep(12, "a") + ")", api.ErrLarge, false},
		{"h(X,Y,X)", "h(" + deep(10, "Y") + "," + deep(12, "a") + ",a)", api.OK, false},
		{"h(X,X)", "h(Y," + whole + ")", api.OK, true}, // the image has more than 1000 bytes, the unifier has not
		{"g(Z" + l + ")", "g(a" + r + ")", api.ErrLarge, false},
		{"g(a" + l + ")", "g(b" + r + ")", api.OK, false}, {"g(a" + l + ",b)", "g(a" + r + ",a)", api.OK, false}, {"g(A" + l + ")", "g(M" + r + ")", api.OK, false}, // no unifier, however large it would be
	} {
		u, ok, e := term.Unify(x.s, x.t)
		if ok != x.ok || e != x.want || !ok && len(u) != 0 || ok && !isMostGeneral(t, x.s, x.t, u) {
			t.Errorf("Unify of %.30s and %.30s: %.60v, %t, %d, not %t, %d", x.s, x.t, u, ok, e, x.ok, x.want)
		}
	}
}

// P1.3, P1: terms that are equal only in endlessly many ways to look at them.
func TestUnifyEndsSoon(t *testing.T) {
	row := func(v int) string {
		x := string(rune('A' + v))
		return "f(" + strings.Repeat(x+",", 12) + x + ")"
	}
	var l, r []string
	for i := range 12 {
		l = append(l, row(i), row(i+13))
		r = append(r, string(rune('A'+i+1)), string(rune('A'+i+14)))
	}
	s, u := "g("+strings.Join(l, ",")+",M)", "g("+strings.Join(r, ",")+",Z)"
	if _, ok, e := term.Unify(s, u); ok || e != api.ErrLarge {
		t.Errorf("Unify: %t, %d", ok, e)
	}
}

// P1.3: IsUnifier, for images of any size.
func TestIsUnifier(t *testing.T) {
	large := flat("f", api.MaxTerm)
	for _, x := range []struct {
		s, t string
		u    []term.Bind
		want bool
	}{
		{"X", "Y", nil, false}, {"X", "X", nil, true}, {"X", "Y", binds("X", "Y"), true}, {"X", "Y", binds("Y", "X"), true}, {"X", "Y", binds("X", "Y", "Y", "X"), false}, {"X", "Y", binds("X", "a", "Y", "a"), true}, {"X", "Y", binds("X", "a", "Y", "b"), false},
		{"X", "f(X)", binds("X", "f(X)"), false}, {"X", "Y", binds("X", "a", "Y", "a", "Z", "f(a,b)"), true}, {"X", "a", binds("X", "a", "Y", "("), false},
		{"g(X,X)", "g(X,Y)", binds("X", large, "Y", large), true}, {"g(X,X)", "g(X,Y)", binds("X", large, "Y", "a"), false}, {deep(20, "X"), deep(20, "Y"), binds("X", deep(20, "X"), "Y", deep(20, "X")), true},
		{"g(" + strings.Repeat("X,", 498) + "X)", "g(" + strings.Repeat("Y,", 498) + "Y)", binds("X", large, "Y", large), true},
	} {
		if term.IsUnifier(x.s, x.t, x.u) != x.want {
			t.Errorf("IsUnifier of %.30s, %.30s, %.60v: not %t", x.s, x.t, x.u, x.want)
		}
	}
}

// P1.3, P1.6: a unifier is found just if there is one, and others are its images: v is v after u.
func TestUnifyIsMostGeneral(t *testing.T) {
	m := newMaker(3, "XYZ", "a0", "b0", "f1", "g2")
	found, compared := 0, 0
	for range 4000 {
		s, v := m.term(4), m.term(4)
		u, ok, e := term.Unify(s, v)
		if e != api.OK || ok != unifiable(s, v) || ok && !isMostGeneral(t, s, v, u) {
			t.Fatalf("Unify of %s and %s: %v, %t, %d", s, v, u, ok, e)
		}
		if ok {
			found++
		}
		for range 20 {
			w := m.substitution("XYZ", 2)
			if !term.IsUnifier(s, v, w) {
				continue
			}
			if !ok {
				t.Fatalf("Unify of %s and %s: none, but %v is one", s, v, w)
			}
			for _, x := range []string{"X", "Y", "Z"} {
				compared++
				if apply(t, apply(t, x, u), w) != apply(t, x, w) {
					t.Fatalf("Unify of %s and %s: %v is not more general than %v", s, v, u, w)
				}
			}
		}
	}
	if found < 100 || found > 3900 || compared < 1000 {
		t.Errorf("%d unifiers of 4000, %d compared", found, compared)
	}
}

// P1.6: variants.
func TestVariants(t *testing.T) {
	m := newMaker(4, "XYZ", "a0", "f1", "g2")
	both := 0
	for range 3000 {
		s, v := m.term(4), m.term(4)
		variant := strings.NewReplacer("X", "Y", "Y", "Q", "Z", "A").Replace(s)
		a, _ := term.Canon(s)
		if b, e := term.Canon(variant); a != b || e != api.OK {
			t.Fatalf("Canon of %s: %s, of %s: %s, %d", s, a, variant, b, e)
		}
		if !isMoreGeneral(t, s, a) || !isMoreGeneral(t, a, s) {
			t.Fatalf("Canon of %s: %s", s, a)
		}
		b, _ := term.Canon(v)
		mutual := isMoreGeneral(t, s, v) && isMoreGeneral(t, v, s)
		if mutual != (a == b) {
			t.Fatalf("%s and %s: canonical %s and %s", s, v, a, b)
		}
		if mutual && s != v {
			both++
		}
	}
	if both < 10 {
		t.Errorf("only %d pairs of variants", both)
	}
}
