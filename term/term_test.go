package term_test

import (
	"fmt"
	"slices"
	"strings"
	"testing"

	"forcola/api"
	"forcola/term"
)

// P1.1: what is a term.
func TestCheckOneTerm(t *testing.T) {
	for _, x := range []struct {
		s    string
		want api.Errno
	}{
		{"A", api.OK}, {"Z", api.OK}, {"a", api.OK}, {"z", api.OK}, {"abcdef", api.OK}, {"f(X)", api.OK}, {"azazaz(X,g(a),Y)", api.OK}, {"f(f(f(f(X))))", api.OK},
		{"", api.ErrTerm}, {"AB", api.ErrTerm}, {"abcdefg", api.ErrTerm}, {"abcdefg(X)", api.ErrTerm}, {"f()", api.ErrTerm}, {"f(", api.ErrTerm}, {"f(a", api.ErrTerm}, {"f(a,", api.ErrTerm}, {"f(a,)", api.ErrTerm}, {"f(,a)", api.ErrTerm}, {"f(a,,b)", api.ErrTerm},
		{"f(a))", api.ErrTerm}, {"f(a)b", api.ErrTerm}, {"f(a)(b)", api.ErrTerm}, {"(a)", api.ErrTerm}, {"X(a)", api.ErrTerm}, {"F(a)", api.ErrTerm}, {"Xa", api.ErrTerm}, {"aX", api.ErrTerm}, {"f (a)", api.ErrTerm}, {"f(a, b)", api.ErrTerm}, {" a", api.ErrTerm}, {"a\n", api.ErrTerm},
		{"1", api.ErrTerm}, {"a1", api.ErrTerm}, {"[", api.ErrTerm}, {"@", api.ErrTerm}, {"`", api.ErrTerm}, {"{", api.ErrTerm}, {"\u00e4", api.ErrTerm}, {"\xff", api.ErrTerm}, {"f(\x00)", api.ErrTerm}, {",", api.ErrTerm}, {")", api.ErrTerm}, {"a,b", api.ErrTerm},
		{flat("f", api.MaxTerm), api.OK}, {flat("f", api.MaxTerm+1), api.ErrLong}, {strings.Repeat("(", api.MaxTerm), api.ErrTerm}, {strings.Repeat("(", api.MaxTerm+1), api.ErrLong}, {strings.Repeat("s(", 499), api.ErrTerm},
		{deep(20, "a"), api.OK}, {deep(20, "X"), api.OK}, {deep(21, "a"), api.ErrTerm}, {deep(21, "X"), api.ErrTerm}, {"f(a," + deep(19, "X") + ")", api.OK}, {"f(a," + deep(20, "X") + ")", api.ErrTerm},
		{"f(f)", api.ErrArity}, {"f(f(a),f(a,b))", api.ErrArity}, {"g(f,f(a))", api.ErrArity}, {"f(g(a,b),g(b,a))", api.OK},
	} {
		if e := term.Check(x.s); e != x.want {
			t.Errorf("Check of %.40q, %d bytes: %d, not %d", x.s, len(x.s), e, x.want)
		}
	}
}

// P1.1: several terms, one after the other; numbers of arguments last, for all together.
func TestCheckSeveralTerms(t *testing.T) {
	long := flat("f", api.MaxTerm+1)
	for _, x := range []struct {
		terms []string
		want  api.Errno
	}{
		{nil, api.OK}, {[]string{"a", "X", "f(a)"}, api.OK}, {[]string{"a", "b", "f(a)", "f(X)"}, api.OK},
		{[]string{"a", long, "("}, api.ErrLong}, {[]string{"a", "(", long}, api.ErrTerm}, {[]string{"f(f)", "("}, api.ErrTerm}, {[]string{"f(f)", "a", long}, api.ErrLong},
		{[]string{"f(a)", "f(a,b)"}, api.ErrArity}, {[]string{"f(a)", "b", "g(f)"}, api.ErrArity}, {[]string{"a", "a(X)"}, api.ErrArity}, {[]string{"f(f)", "a"}, api.ErrArity},
	} {
		if e := term.Check(x.terms...); e != x.want {
			t.Errorf("Check of %.60q: %d, not %d", x.terms, e, x.want)
		}
	}
}

// calls are all calls that take terms, each with a place for one of them and terms that use f with one argument; they report whether all but the error is zero.
func calls() map[string]func(s string) (bool, api.Errno) {
	return map[string]func(s string) (bool, api.Errno){
		"Vars":  func(s string) (bool, api.Errno) { v, e := term.Vars(s); return v == "", e },
		"Size":  func(s string) (bool, api.Errno) { n, e := term.Size(s); return n == 0, e },
		"Canon": func(s string) (bool, api.Errno) { c, e := term.Canon(s); return c == "", e },
		"Apply 1": func(s string) (bool, api.Errno) {
			i, e := term.Apply(s, binds("Y", "X", "X", "f(a)"))
			return i == "", e
		},
		"Apply 2": func(s string) (bool, api.Errno) {
			i, e := term.Apply("f(a)", binds("X", "a", "x", s))
			return i == "", e
		},
		"Match 1":      func(s string) (bool, api.Errno) { u, ok, e := term.Match(s, "f(a)"); return len(u) == 0 && !ok, e },
		"Match 2":      func(s string) (bool, api.Errno) { u, ok, e := term.Match("f(a)", s); return len(u) == 0 && !ok, e },
		"Unify 1":      func(s string) (bool, api.Errno) { u, ok, e := term.Unify(s, "f(a)"); return len(u) == 0 && !ok, e },
		"Unify 2":      func(s string) (bool, api.Errno) { u, ok, e := term.Unify("f(a)", s); return len(u) == 0 && !ok, e },
		"Generalize 1": func(s string) (bool, api.Errno) { g, e := term.Generalize(s, "f(a)"); return g == "", e },
		"Generalize 2": func(s string) (bool, api.Errno) { g, e := term.Generalize("f(a)", s); return g == "", e },
		"Greater 1":    func(s string) (bool, api.Errno) { is, e := term.Greater([]string{""}, s, "f(a)"); return !is, e },
		"Greater 2":    func(s string) (bool, api.Errno) { is, e := term.Greater([]string{""}, "f(a)", s); return !is, e },
		"Orient 1": func(s string) (bool, api.Errno) {
			l, ok, e := term.Orient([][2]string{{s, "f(g(b,c,d,e,h))"}})
			return len(l) == 0 && !ok, e
		},
		"Orient 2": func(s string) (bool, api.Errno) {
			l, ok, e := term.Orient([][2]string{{"f(a)", "g(b,c,d,e,h)"}, {"b", s}})
			return len(l) == 0 && !ok, e
		},
	}
}

// P1.1: what Check returns for all terms of a call comes first, and nothing but zero values stands next to it (R2). (Where an argument of another kind is wrong here, ErrArg would be due for a right term.)
func TestFirstWhatCheckReturns(t *testing.T) {
	for name, call := range calls() {
		for _, x := range []struct {
			s    string
			want api.Errno
		}{{flat("k", api.MaxTerm+1), api.ErrLong}, {"", api.ErrTerm}, {"f(a", api.ErrTerm}, {deep(21, "a"), api.ErrTerm}, {"k(k)", api.ErrArity}, {"f(a,X)", api.ErrArity}} {
			if x.s == "f(a,X)" && strings.Contains("Vars Size Canon", name) {
				continue
			}
			if zero, e := call(x.s); !zero || e != x.want {
				t.Errorf("%s of %.20q: %d, not %d; zero values %t", name, x.s, e, x.want, zero)
			}
		}
	}
}

// P1.1: IsUnifier has no error to return.
func TestIsUnifierOfNoTerms(t *testing.T) {
	for _, s := range []string{flat("k", api.MaxTerm+1), "", "f(a", deep(21, "a"), "k(k)", "f(a,X)"} {
		if term.IsUnifier(s, s, binds("X", "f(a)")) || term.IsUnifier("f(a)", s, nil) || term.IsUnifier("f(a)", "f(a)", binds("X", s)) {
			t.Errorf("IsUnifier with %.20q", s)
		}
	}
}

// P1.1: variables, sizes, canonical variants.
func TestVarsSizeCanon(t *testing.T) {
	for _, x := range []struct {
		s, vars string
		size    int
		canon   string
	}{
		{"a", "", 1, "a"}, {"X", "X", 1, "A"}, {"f(Z,X,Z)", "ZX", 4, "f(A,B,A)"}, {"f(Z,g(X,Z),Y)", "ZXY", 6, "f(A,g(B,A),C)"}, {"f(B,A)", "BA", 3, "f(A,B)"}, {"f(g(a),g(h(B)))", "B", 6, "f(g(a),g(h(A)))"}, {"f(X,g(a))", "X", 4, "f(A,g(a))"},
		{"f(Z,Y,X,W,V,U,T,S,R,Q,P,O,N,M,L,K,J,I,H,G,F,E,D,C,B,A)", "ZYXWVUTSRQPONMLKJIHGFEDCBA", 27, "f(A,B,C,D,E,F,G,H,I,J,K,L,M,N,O,P,Q,R,S,T,U,V,W,X,Y,Z)"},
		{"f(" + strings.Repeat("Y,", 498) + "X)", "YX", 500, "f(" + strings.Repeat("A,", 498) + "B)"},
	} {
		if v, e := term.Vars(x.s); v != x.vars || e != api.OK {
			t.Errorf("Vars of %.40s: %s, %d", x.s, v, e)
		}
		if n, e := term.Size(x.s); n != x.size || e != api.OK {
			t.Errorf("Size of %.40s: %d, %d", x.s, n, e)
		}
		if c, e := term.Canon(x.s); c != x.canon || e != api.OK {
			t.Errorf("Canon of %.40s: %s, %d", x.s, c, e)
		}
	}
}

// P1: nothing panics; and Check knows terms by the definition, written down once more.
func TestAnyStrings(t *testing.T) {
	m := newMaker(1, "XY", "a0", "f1", "g2")
	for range 20000 {
		s, u := m.text(), m.text()
		if e := term.Check(s); (e == api.OK || e == api.ErrArity) != isTerm(s) {
			t.Fatalf("Check of %q: %d", s, e)
		}
		for _, call := range calls() {
			call(s)
		}
		term.IsUnifier(s, u, []term.Bind{{Var: u, Term: s}})
		term.Apply(s, []term.Bind{{Var: "X", Term: u}, {Var: s, Term: s}})
		term.Greater([]string{s, u}, "a", "f(X)")
		term.Orient([][2]string{{s, u}, {u, s}})
	}
}

// text is a string that may be a term.
func (m maker) text() string {
	if m.Intn(2) == 0 {
		b := []byte(m.term(3))
		b[m.Intn(len(b))] = "fgaXY(),A \xff"[m.Intn(11)]
		return string(b)
	}
	var b strings.Builder
	for range m.Intn(9) {
		b.WriteByte("fgaXY(),"[m.Intn(8)])
	}
	return b.String()
}

// isTerm is for short strings: the innermost brackets are taken out until there are none.
func isTerm(s string) bool {
	for strings.Contains(s, ")") {
		end := strings.IndexByte(s, ')')
		begin := strings.LastIndexByte(s[:end], '(')
		if begin < 0 {
			return false
		}
		head := begin
		for head > 0 && 'a' <= s[head-1] && s[head-1] <= 'z' {
			head--
		}
		if begin-head < 1 || begin-head > 6 {
			return false
		}
		if end+1 < len(s) && s[end+1] != ',' && s[end+1] != ')' {
			return false
		}
		for _, part := range strings.Split(s[begin+1:end], ",") {
			if !isLeaf(part) {
				return false
			}
		}
		s = s[:head] + "X" + s[end+1:]
	}
	return isLeaf(s)
}

func isLeaf(s string) bool {
	if len(s) == 1 && 'A' <= s[0] && s[0] <= 'Z' {
		return true
	}
	return 1 <= len(s) && len(s) <= 6 && strings.Trim(s, "abcdefghijklmnopqrstuvwxyz") == ""
}

// R4: arguments stay what they are, also beyond their length, and results are new; R7: the same call has the same result.
func TestArgumentsAndResults(t *testing.T) {
	terms := []string{"f(X)", "a", "beyond"}
	u := binds("X", "a", "Y", "b", "Z", "c")
	order := []string{"f", "a", "b", "beyond"}
	rules := [][2]string{{"f(X)", "g(X)"}, {"g(X)", "h(a)"}, {"beyond", "it"}}
	before := fmt.Sprint(terms, u, order, rules)
	for range 2 {
		if e := term.Check(terms[:2]...); e != api.OK {
			t.Errorf("Check: %d", e)
		}
		if s := apply(t, "f(g(X,Y,Z))", u[:2]); s != "f(g(a,b,Z))" {
			t.Errorf("Apply: %s", s)
		}
		if !term.IsUnifier("f(X)", "f(a)", u[:2]) {
			t.Errorf("IsUnifier")
		}
		if is, e := term.Greater(order[:3], "f(b)", "f(a)"); is || e != api.OK {
			t.Errorf("Greater: %t, %d", is, e)
		}
		l, ok, e := term.Orient(rules[:2])
		if !ok || e != api.OK || !isOrientation(t, l, rules[:2]) {
			t.Errorf("Orient: %v, %t, %d", l, ok, e)
		}
		l[0] = "changed"
		v, ok, e := term.Unify("f(X,Y)", "f(a,b)")
		if !ok || e != api.OK || !slices.Equal(v, binds("X", "a", "Y", "b")) {
			t.Errorf("Unify: %v, %t, %d", v, ok, e)
		}
		v[0].Term = "changed"
	}
	if after := fmt.Sprint(terms, u, order, rules); after != before {
		t.Errorf("%s has become %s", before, after)
	}
}
