package term_test

import (
	"fmt"
	"slices"
	"strings"
	"testing"

	"forcola/api"
	"forcola/term"
)

// greater is Greater where it has to succeed.
func greater(t *testing.T, order []string, s, u string) bool {
	t.Helper()
	is, e := term.Greater(order, s, u)
	if e != api.OK {
		t.Fatalf("Greater by %v of %s and %s: %d", order, s, u, e)
	}
	return is
}

// isOrientation reports whether order has just the names of the rules, and orients all of them.
func isOrientation(t *testing.T, order []string, rules [][2]string) bool {
	t.Helper()
	for _, name := range order {
		if !strings.Contains(fmt.Sprint(rules), name) {
			return false
		}
	}
	for _, r := range rules {
		if !greater(t, order, r[0], r[1]) {
			return false
		}
	}
	return true
}

// P1.5: each case of the definition.
func TestGreater(t *testing.T) {
	order := []string{"m", "p", "s", "a"}
	for _, x := range []struct {
		s, t string
		want bool
	}{
		{"m(s(X),Y)", "p(Y,m(X,Y))", true}, {"p(s(X),Y)", "s(p(X,Y))", true}, {"s(p(X,Y))", "p(s(X),Y)", false},
		{"X", "X", false}, {"X", "Y", false}, {"X", "a", false}, {"X", "s(X)", false}, {"s(X)", "X", true}, {"s(X)", "Y", false}, {"p(X,s(Y))", "Y", true},
		{"s(a)", "a", true}, {"a", "s(a)", false}, {"s(s(X))", "s(X)", true}, {"s(X)", "s(X)", false}, {"s(X)", "s(Y)", false},
		{"s(X)", "a", true}, {"a", "s(X)", false}, {"p(X,Y)", "s(s(s(X)))", true}, {"p(X,Y)", "s(s(s(a)))", true}, {"p(X,X)", "s(Y)", false}, {"s(m(X,Y))", "p(X,Y)", true},
		{"p(X,Y)", "p(Y,X)", false}, {"p(p(X,Y),Z)", "p(X,p(Y,Z))", true}, {"p(s(X),Y)", "p(X,s(Y))", true}, {"p(X,s(Y))", "p(X,Y)", true}, {"p(X,Y)", "p(X,s(Y))", false}, {"p(s(a),a)", "p(a,m(a,a))", false},
	} {
		if is := greater(t, order, x.s, x.t); is != x.want {
			t.Errorf("Greater of %s and %s: %t", x.s, x.t, is)
		}
	}
}

// P1.5: precedences that are none, and those of any number of names.
func TestGreaterPrecedences(t *testing.T) {
	for _, l := range [][]string{nil, {"m"}, {"p"}, {"m", "p", "m"}, {"p", "m", "k", "k"}, {"m", "p", "P"}, {"m", "p", ""}, {"m", "p", "abcdefg"}, {"m", "p", "q(X)"}, {"m", "p", "\xff"}, {"m", "p", "a1"}} {
		if is, e := term.Greater(l, "p(X,Y)", "m(X,Y)"); is || e != api.ErrArg {
			t.Errorf("Greater by %v: %t, %d", l, is, e)
		}
	}
	if is, e := term.Greater([]string{"p", "m", "a"}, "p(X)", "f("); is || e != api.ErrTerm {
		t.Errorf("Greater of no term: %t, %d", is, e)
	}
	if is, e := term.Greater(nil, "X", "Y"); is || e != api.OK {
		t.Errorf("Greater of variables: %t, %d", is, e)
	}
	var many []string
	for i := range 26 * 26 * 26 {
		many = append(many, string([]byte{byte('a' + i/676), byte('a' + i/26%26), byte('a' + i%26)}))
	}
	if !greater(t, many, "aaa(X)", "zzz(X,X)") || greater(t, many, "zzz(X)", "aaa(X)") || greater(t, many, "zzz(X,X)", "zzy") {
		t.Errorf("Greater by %d names", len(many))
	}
	if is, e := term.Greater(append(many, "aaa"), "aaa(X)", "X"); is || e != api.ErrArg {
		t.Errorf("Greater by a name that is there twice: %t, %d", is, e)
	}
}

// P1.5: Greater is the definition, for any terms and precedences.
func TestGreaterByDefinition(t *testing.T) {
	m := newMaker(6, "XY", "a0", "b0", "f1", "g2", "h3")
	all := orders([]string{"a", "b", "f", "g", "h"})
	count := 0
	for range 6000 {
		s, u, order := m.term(4), m.term(3), all[m.Intn(len(all))]
		is := greater(t, order, s, u)
		if is != above(order, treeOf(s), treeOf(u)) {
			t.Fatalf("Greater by %v of %s and %s: %t", order, s, u, is)
		}
		if is {
			count++
		}
	}
	if count < 500 || count > 5500 {
		t.Errorf("%d of 6000 are greater", count)
	}
}

// P1.5: precedences for rules.
func TestOrient(t *testing.T) {
	l, ok, e := term.Orient([][2]string{{"m(s(X),Y)", "p(Y,m(X,Y))"}, {"p(s(X),Y)", "s(p(X,Y))"}})
	if !slices.Equal(l, []string{"m", "p", "s"}) || !ok || e != api.OK {
		t.Errorf("Orient: %v, %t, %d", l, ok, e)
	}
	for _, rules := range [][][2]string{nil, {{"a", "b"}}, {{"f(X)", "X"}}, {{"f(X)", "a"}}, {{"a", "b"}, {"b", "c"}, {"c", "d"}, {"d", "e"}, {"e", "f"}}, {{"f", "e"}, {"e", "d"}, {"d", "c"}, {"c", "b"}, {"b", "a"}}} {
		if l, ok, e := term.Orient(rules); !ok || e != api.OK || !isOrientation(t, l, rules) {
			t.Errorf("Orient of %v: %v, %t, %d", rules, l, ok, e)
		}
	}
	for _, rules := range [][][2]string{{{"X", "Y"}}, {{"X", "a"}}, {{"a", "a"}}, {{"a", "X"}}, {{"f(X)", "g(X)"}, {"g(X)", "f(X)"}}, {{"a", "b"}, {"b", "c"}, {"c", "a"}}, {{"f(X)", "f(f(X))"}}} {
		if l, ok, e := term.Orient(rules); len(l) != 0 || ok || e != api.OK {
			t.Errorf("Orient of %v: %v, %t, %d", rules, l, ok, e)
		}
	}
}

// P1.5: numbers of rules and names, and which error comes first.
func TestOrientLimits(t *testing.T) {
	times := func(n int, r [2]string) [][2]string {
		return slices.Repeat([][2]string{r}, n)
	}
	six, seven := [2]string{"f(a,b,c)", "g(d)"}, [2]string{"f(a,b,c)", "g(d,e)"}
	for _, x := range []struct {
		rules [][2]string
		want  api.Errno
	}{
		{times(12, [2]string{"f(X)", "X"}), api.OK}, {times(13, [2]string{"f(X)", "X"}), api.ErrLong}, {times(13, [2]string{"(", ""}), api.ErrLong}, {times(12, six), api.OK}, {times(1, seven), api.ErrArg}, {times(12, seven), api.ErrArg}, {[][2]string{{"f(a,b,c)", "d"}, {"X", "e"}, {"X", "h"}}, api.ErrArg},
		{[][2]string{seven, {"a", "("}}, api.ErrTerm}, {[][2]string{seven, {"a", flat("k", api.MaxTerm+1)}, {"(", "a"}}, api.ErrLong}, {[][2]string{seven, {"f(a)", "a"}}, api.ErrArity}, {[][2]string{{"f(a)", "a"}, {"b", "a(b)"}}, api.ErrArity},
	} {
		l, ok, e := term.Orient(x.rules)
		if e != x.want || ok != (e == api.OK) || ok && !isOrientation(t, l, x.rules) || !ok && len(l) != 0 {
			t.Errorf("Orient of %.60v: %v, %t, %d, not %d", x.rules, l, ok, e, x.want)
		}
	}
}

// P1.5: Orient finds a precedence just if one of all precedences orients the rules.
func TestOrientByTrying(t *testing.T) {
	m := newMaker(7, "XY", "a0", "b0", "f1", "g2", "h1", "k2")
	all := orders([]string{"a", "b", "f", "g", "h", "k"})
	found, tried := 0, 0
	for range 400 {
		var rules [][2]string
		for range 1 + m.Intn(4) {
			s := m.term(4)
			rules = append(rules, [2]string{s, m.term(3)})
		}
		want := false
		for _, order := range all {
			want = want || !slices.ContainsFunc(rules, func(r [2]string) bool { return !above(order, treeOf(r[0]), treeOf(r[1])) })
		}
		l, ok, e := term.Orient(rules)
		if e != api.OK || ok != want || ok && !isOrientation(t, l, rules) || !ok && len(l) != 0 {
			t.Fatalf("Orient of %v: %v, %t, %d, not %t", rules, l, ok, e, want)
		}
		tried++
		if ok {
			found++
		}
	}
	if found < 20 || found > 380 {
		t.Errorf("%d of %d oriented", found, tried)
	}
}

// P1.8: irreflexive, transitive, greater than arguments; kept by substitutions and around terms.
func TestPathOrderLaws(t *testing.T) {
	m := newMaker(8, "XY", "a0", "b0", "f1", "g2", "h3")
	all := orders([]string{"a", "b", "f", "g", "h"})
	pairs, chains := 0, 0
	for range 8000 {
		s, u, v, order := m.term(3), m.term(3), m.term(3), all[m.Intn(len(all))]
		if greater(t, order, s, s) {
			t.Fatalf("by %v %s is greater than itself", order, s)
		}
		for _, a := range treeOf(s).args {
			if !greater(t, order, s, a.String()) || greater(t, order, a.String(), s) {
				t.Fatalf("by %v %s is not greater than its argument %s", order, s, a)
			}
		}
		if !greater(t, order, s, u) {
			continue
		}
		pairs++
		if greater(t, order, u, s) {
			t.Fatalf("by %v %s and %s are greater than each other", order, s, u)
		}
		if greater(t, order, u, v) {
			chains++
			if !greater(t, order, s, v) {
				t.Fatalf("by %v not transitive: %s, %s, %s", order, s, u, v)
			}
		}
		w := m.substitution("XY", 3)
		if !greater(t, order, apply(t, s, w), apply(t, u, w)) {
			t.Fatalf("by %v %s and %s under %v", order, s, u, w)
		}
		if !greater(t, order, "h("+v+","+s+",a)", "h("+v+","+u+",a)") || !greater(t, order, "f("+s+")", "f("+u+")") {
			t.Fatalf("by %v %s and %s around %s", order, s, u, v)
		}
	}
	if pairs < 500 || chains < 100 {
		t.Errorf("%d pairs, %d chains", pairs, chains)
	}
}

// P1.8: of two different terms without variables one is greater.
func TestPathOrderIsTotal(t *testing.T) {
	m := newMaker(9, "", "a0", "b0", "f1", "g2", "h3")
	all := orders([]string{"a", "b", "f", "g", "h"})
	for range 3000 {
		s, u, order := m.term(4), m.term(4), all[m.Intn(len(all))]
		if one, other := greater(t, order, s, u), greater(t, order, u, s); one == other && s != u || one && other {
			t.Fatalf("by %v %s and %s: %t, %t", order, s, u, one, other)
		}
	}
}

// towers is a term whose arguments are many high ones: letters of up, as bits of k, are their names.
func towers(up string, k int) string {
	var l []string
	for i := range 16 {
		s := string(rune('A' + i))
		for j := range 18 {
			s = string(up[(i*k+j*j*k)>>2&1]) + "(" + s + ")"
		}
		l = append(l, s)
	}
	return "e(" + strings.Join(l, ",") + ")"
}

// P1.5, P1: terms of many levels, for all precedences of six names.
func TestOrdersEndSoon(t *testing.T) {
	var rules [][2]string
	for i := range 12 {
		rules = append(rules, [2]string{towers("ab", 2*i+3), towers("cd", 3*i+1)})
	}
	if l, ok, e := term.Orient(rules); e != api.OK || ok && !isOrientation(t, l, rules) {
		t.Errorf("Orient: %v, %t, %d", l, ok, e)
	}
	greater(t, []string{"a", "c", "b", "d", "e"}, towers("ab", 7), towers("cd", 5))
}
