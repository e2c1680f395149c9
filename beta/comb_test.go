package beta_test

import (
	"math/rand"
	"strconv"
	"strings"
	"testing"

	"forcola/api"
	"forcola/beta"
)

// P2.4: numerals.
func TestNumeral(t *testing.T) {
	for n := range 101 {
		want := `\\` + repeat("(1 ", n) + "0" + repeat(")", n)
		if s, e := beta.Numeral(n); s != want || e != api.OK {
			t.Errorf("Numeral of %d: %q, %d", n, s, e)
		}
		if n < 90 {
			if s := index(t, `\f.\x.`+repeat("f(", n)+"x"+repeat(")", n)); s != want {
				t.Errorf("Index of the numeral of %d: %q", n, s)
			}
		}
	}
	for _, n := range []int{-1, 101, -1 << 63, 1<<63 - 1, 1 << 32} {
		if s, e := beta.Numeral(n); s != "" || e != api.ErrArg {
			t.Errorf("Numeral of %d: %q, %d", n, s, e)
		}
	}
}

// P2.4: the numbers of numerals.
func TestCount(t *testing.T) {
	for _, n := range []int{0, 1, 2, 3, 50, 100, 101, 102, 1000, 1998} {
		if c, ok, e := beta.Count(`\\` + repeat("(1 ", n) + "0" + repeat(")", n)); c != n || !ok || e != api.OK {
			t.Errorf("Count of the numeral of %d: %d, %t, %d", n, c, ok, e)
		}
	}
	for _, s := range []string{"a", `\0`, `\\1`, `\\a`, `\\\0`, `\\\(1 0)`, `\(0 0)`, `\\(0 1)`, `\\(1 1)`, `\\(0 0)`, `\\(1 (0 0))`, `\\(1 (1 1))`, `\\((1 1) 0)`, `\\(1 a)`, `\\(a 0)`, `\\(1 \0)`, `\\(\2 0)`, `(\\0 a)`, "(a b)", `\\(1 (1 \0))`, `\\(1 (\0 0))`, `\\\(2 (2 1))`, `\(1 0)`[:1] + `\\(2 1)`, `\a`} {
		if c, ok, e := beta.Count(s); c != 0 || ok || e != api.OK {
			t.Errorf("Count of %q: %d, %t, %d", s, c, ok, e)
		}
	}
	if c, ok, e := beta.Count(`\\` + repeat("(1 ", 1999) + "0" + repeat(")", 1999)); c != 0 || ok || e != api.ErrLambda {
		t.Errorf("Count of too many levels: %d, %t, %d", c, ok, e)
	}
}

// P2.8: sums and products of numerals.
func TestSumsAndProducts(t *testing.T) {
	sum, product := index(t, `\m.\n.\f.\x.mf(nfx)`), index(t, `\m.\n.\f.m(nf)`)
	for m := range 12 {
		for n := range 12 {
			left, _ := beta.Numeral(m)
			right, _ := beta.Numeral(n)
			for f, want := range map[string]int{sum: m + n, product: m * n} {
				s, _, ok, e := beta.Normal("(("+f+" "+left+") "+right+")", 1000)
				if c, is, _ := beta.Count(s); c != want || !is || !ok || e != api.OK {
					t.Fatalf("%q of %d and %d: %q, %t, %d", f, m, n, s, ok, e)
				}
			}
		}
	}
}

// chainOf is a combinator of that many letters, with few levels.
func chainOf(leaves int, letter string) string {
	if leaves == 1 {
		return letter
	}
	return "(" + chainOf(leaves/2, letter) + " " + chainOf(leaves-leaves/2, letter) + ")"
}

// P2.5: what a combinator is.
func TestCheckComb(t *testing.T) {
	for _, x := range []struct {
		c    string
		want api.Errno
	}{
		{"S", api.OK}, {"K", api.OK}, {"I", api.OK}, {"a", api.OK}, {"z", api.OK}, {"(S K)", api.OK}, {"((S I) I)", api.OK}, {"(a (K b))", api.OK},
		{"", api.ErrComb}, {"T", api.ErrComb}, {"B", api.ErrComb}, {"0", api.ErrComb}, {`\0`, api.ErrComb}, {`\a`, api.ErrComb}, {"SK", api.ErrComb}, {"(S)", api.ErrComb}, {"()", api.ErrComb}, {"(S K", api.ErrComb}, {"(S K))", api.ErrComb}, {"(S  K)", api.ErrComb}, {"(S K )", api.ErrComb}, {"( S K)", api.ErrComb}, {"(SK)", api.ErrComb}, {"(S K I)", api.ErrComb}, {"S K", api.ErrComb}, {" S", api.ErrComb}, {"S ", api.ErrComb}, {"(", api.ErrComb}, {"(S", api.ErrComb}, {"(S ", api.ErrComb}, {"(S,K)", api.ErrComb}, {"S\n", api.ErrComb}, {"\u00e4", api.ErrComb}, {"\xff", api.ErrComb}, {"\x00", api.ErrComb}, {"`", api.ErrComb}, {"{", api.ErrComb},
		{nested(1000, "S"), api.OK}, {nested(1001, "S"), api.ErrComb}, {leftNested(1000, "S"), api.OK}, {leftNested(1001, "S"), api.ErrComb},
		{chainOf(1250, "K"), api.OK}, {chainOf(1251, "K"), api.ErrLong}, {repeat("(", 5000), api.ErrComb}, {repeat("(", 5001), api.ErrLong}, {repeat("a", 5000), api.ErrComb}, {repeat("a", 5001), api.ErrLong},
	} {
		if e := beta.CheckComb(x.c); e != x.want {
			t.Errorf("CheckComb of %.40q, %d bytes: %d, not %d", x.c, len(x.c), e, x.want)
		}
		if x.want == api.OK {
			continue
		}
		if f, e := beta.Term(x.c); f != "" || e != x.want {
			t.Errorf("Term of %.40q: %q, %d", x.c, f, e)
		}
		// Weak returns what CheckComb returns even if most is wrong.
		if f, n, ok, e := beta.Weak(x.c, -1); f != "" || n != 0 || ok || e != x.want {
			t.Errorf("Weak of %.40q: %q, %d, %t, %d", x.c, f, n, ok, e)
		}
	}
}

// P2.5: translations.
func TestTranslate(t *testing.T) {
	for _, x := range [][2]string{
		{`\x.xx`, "((S I) I)"}, {"x", "x"}, {"ab", "(a b)"}, {`\x.x`, "I"}, {`\x.y`, "(K y)"}, {`\x.\y.x`, "((S (K K)) I)"}, {`\x.\y.y`, "(K I)"}, {`\x.yz`, "(K (y z))"}, {`\x.yx`, "((S (K y)) I)"}, {`\x.xy`, "((S I) (K y))"}, {`\x.y(zx)`, "((S (K y)) ((S (K z)) I))"}, {`\x.yz(ax)`, "((S (K (y z))) ((S (K a)) I))"},
		{`\x.\y.xy`, "((S ((S (K S)) ((S (K K)) I))) (K I))"}, {`\x.\y.z`, "(K (K z))"}, {`\x.x(\y.y)`, "((S I) (K I))"}, {`(\x.x)(\x.y)`, "(I (K y))"},
	} {
		if c, e := beta.Translate(index(t, x[0])); c != x[1] || e != api.OK {
			t.Errorf("Translate of %q: %q, %d", x[0], c, e)
		}
	}
}

// numbers is a form in which one number after the other is applied to the rest.
func numbers(n int) string {
	s := "0"
	for i := range n {
		s = "(" + strconv.Itoa(i) + " " + s + ")"
	}
	return s
}

// P2.5: translations of 5000 bytes (all have an odd number of them: 4997) and 1000 levels, and more.
func TestTranslateLimits(t *testing.T) {
	for _, x := range []struct {
		s, want string
	}{
		{chainOf(1250, "a"), chainOf(1250, "a")}, {chainOf(1251, "a"), ""}, {`\` + chainOf(1249, "a"), "(K " + chainOf(1249, "a") + ")"}, {`\` + chainOf(1250, "a"), ""},
		{nested(1000, "b"), nested(1000, "b")}, {nested(1001, "b"), ""}, {lambdas(1000, "a"), repeat("(K ", 1000) + "a" + repeat(")", 1000)}, {lambdas(1001, "a"), ""}, {lambdas(2000, "a"), ""}, {lambdas(1001, "0"), repeat("(K ", 1000) + "I" + repeat(")", 1000)}, {lambdas(1002, "0"), ""},
		{`\` + nested(415, "(a 0)"), repeat("((S (K a)) ", 415) + "((S (K a)) I)" + repeat(")", 415)}, {`\` + nested(416, "(a 0)"), ""}, {`\` + nested(998, "(a 0)"), ""},
		{wide(20000), ""}, {lambdas(40, numbers(40)), ""}, {lambdas(900, numbers(900)), ""},
	} {
		want := api.OK
		if x.want == "" {
			want = api.ErrLarge
		}
		if c, e := beta.Translate(x.s); c != x.want || e != want {
			t.Errorf("Translate of %.40q: %.40q, %d bytes, %d", x.s, c, len(c), e)
		}
	}
}

// P2.5: translations of random terms are those of the definition.
func TestTranslateRandomTerms(t *testing.T) {
	r := rand.New(rand.NewSource(7))
	large := 0
	for range 3000 {
		x := randomTree(r, 1+r.Intn(12), 0)
		if r.Intn(10) == 0 {
			x = treeOf(lambdas(6, randomTree(r, 90, 6).String()))
		}
		want := x.translate(nil)
		wanted, e := want.String(), api.OK
		if len(wanted) > 5000 || want.levels() > 1000 {
			wanted, e = "", api.ErrLarge
			large++
		}
		if c, got := beta.Translate(x.String()); c != wanted || got != e {
			t.Fatalf("Translate of %q: %q, %d, not %q", x, c, got, wanted)
		}
	}
	if large == 0 {
		t.Errorf("none is large")
	}
}

// P2.5: terms of combinators.
func TestTerm(t *testing.T) {
	for _, x := range [][2]string{{"S", `\\\((2 0) (1 0))`}, {"K", `\\1`}, {"I", `\0`}, {"a", "a"}, {"z", "z"}, {"((S I) x)", `((\\\((2 0) (1 0)) \0) x)`}, {"(K (a b))", `(\\1 (a b))`}} {
		if f, e := beta.Term(x[0]); f != x[1] || e != api.OK {
			t.Errorf("Term of %q: %q, %d", x[0], f, e)
		}
	}
	if f := index(t, `\a.\b.\c.ac(bc)`); f != `\\\((2 0) (1 0))` {
		t.Errorf("the term of S: %q", f)
	}
}

// leaves is a combinator of 1250 leaves, that many of them S and K and the others a.
func leaves(s, k int) string {
	c := chainOf(1250, "a")
	c = strings.Replace(c, "a", "S", s)
	return strings.Replace(c, "a", "K", k)
}

// P2.5: terms of 20000 bytes, and of more. (No combinator has a term of 2000 levels.)
func TestTermLimits(t *testing.T) {
	// 1250 leaves are 4997 bytes; each S has 15 bytes more, each K 2.
	for _, x := range []struct{ s, k, bytes int }{{1000, 1, 19999}, {999, 9, 20000}, {1001, 0, 0}, {1000, 2, 0}, {1250, 0, 0}} {
		c := leaves(x.s, x.k)
		f, e := beta.Term(c)
		if x.bytes == 0 && (f != "" || e != api.ErrLarge) || x.bytes > 0 && (f != treeOf(c).term().String() || len(f) != x.bytes || e != api.OK) {
			t.Errorf("Term of %d S and %d K: %d bytes, %d", x.s, x.k, len(f), e)
		}
	}
	if f, e := beta.Term(nested(1000, "S")); f != nested(1000, `\\\((2 0) (1 0))`) || e != api.OK {
		t.Errorf("Term of 1000 levels: %d bytes, %d", len(f), e)
	}
}

// P2.5: weak steps.
func TestWeak(t *testing.T) {
	sii := "(((S I) I) ((S I) I))"
	for _, x := range []struct {
		c    string
		most int
		want string
		n    int
		ok   bool
	}{
		{"(I a)", 9, "a", 1, true}, {"((K a) b)", 9, "a", 1, true}, {"(((S a) b) c)", 9, "((a c) (b c))", 1, true}, {"(((S K) K) x)", 9, "x", 2, true}, {"(((S K) K) x)", 2, "x", 2, true}, {"(((S K) K) x)", 1, "((K x) (K x))", 1, false}, {"(((S K) K) x)", 0, "(((S K) K) x)", 0, false},
		{"S", 0, "S", 0, true}, {"a", 1000, "a", 0, true}, {"(K a)", 5, "(K a)", 0, true}, {"((S a) b)", 5, "((S a) b)", 0, true}, {"(a I)", 5, "(a I)", 0, true}, {"((a b) c)", 5, "((a b) c)", 0, true}, {"(I I)", 5, "I", 1, true}, {"((I K) a)", 5, "(K a)", 1, true},
		{"((K (I a)) (I b))", 1, "(I a)", 1, false}, {"((I a) (I b))", 1, "(a (I b))", 1, false}, {"(a (I b))", 1, "(a b)", 1, true}, {"(I (I a))", 1, "(I a)", 1, false}, {"(((K a) b) c)", 5, "(a c)", 1, true}, {"((((S a) b) c) d)", 5, "(((a c) (b c)) d)", 1, true}, {"((((K I) a) b) c)", 5, "(b c)", 2, true}, {"((K a) " + sii + ")", 1000, "a", 1, true},
		{sii, 1, "((I ((S I) I)) (I ((S I) I)))", 1, false}, {sii, 2, "(((S I) I) (I ((S I) I)))", 2, false}, {"(a " + sii + ")", 0, "(a " + sii + ")", 0, false},
	} {
		if c, n, ok, e := beta.Weak(x.c, x.most); c != x.want || n != x.n || ok != x.ok || e != api.OK {
			t.Errorf("Weak of %q within %d: %q, %d, %t, %d", x.c, x.most, c, n, ok, e)
		}
	}
	for _, most := range []int{-1, 1001, -1 << 63, 1<<63 - 1, 1 << 32} {
		if c, n, ok, e := beta.Weak("(I a)", most); c != "" || n != 0 || ok || e != api.ErrArg {
			t.Errorf("Weak within %d: %q, %d, %t, %d", most, c, n, ok, e)
		}
	}
}

// P2.5: combinators on the way of 4997 bytes (5000 are not possible) and 1000 levels, and more.
func TestWeakLimits(t *testing.T) {
	for _, x := range []struct {
		c, want string
	}{
		{"(((S a) b) " + chainOf(624, "c") + ")", "((a " + chainOf(624, "c") + ") (b " + chainOf(624, "c") + "))"}, {"(((S (a b)) b) " + chainOf(624, "c") + ")", ""}, {"(((S K) b) " + chainOf(624, "c") + ")", chainOf(624, "c")},
		// The large combinator on the way would become a small one.
		{"(((S K) (b b)) " + chainOf(624, "c") + ")", ""},
	} {
		want := api.OK
		if x.want == "" {
			want = api.ErrLarge
		}
		c, n, ok, e := beta.Weak(x.c, 1000)
		if c != x.want || (n > 0) != (want == api.OK) || ok != (want == api.OK) || e != want {
			t.Errorf("Weak of %.30q: %.40q, %d, %t, %d", x.c, c, n, ok, e)
		}
		if c, n, ok, e := beta.Weak(x.c, 0); c != x.c || n != 0 || ok || e != api.OK {
			t.Errorf("Weak of %.30q within no steps: %.40q, %d, %t, %d", x.c, c, n, ok, e)
		}
	}
}

// P2.5: a step may lead to more levels.
func TestWeakLevels(t *testing.T) {
	for deep, want := range map[int]api.Errno{995: api.OK, 996: api.ErrLarge} {
		c := nested(deep, "(((S a) b) ((a b) (a (a b))))")
		if e := beta.CheckComb(c); e != api.OK {
			t.Fatalf("CheckComb: %d", e)
		}
		after := nested(deep, "((a ((a b) (a (a b)))) (b ((a b) (a (a b)))))")
		if s, n, ok, e := beta.Weak(c, 1); e != want || want == api.OK && (s != after || n != 1 || !ok) || want != api.OK && (s != "" || n != 0 || ok) {
			t.Errorf("Weak below %d levels: %t, %d", deep, ok, e)
		}
	}
}

// P2.5: weak steps of random combinators are those of the definition.
func TestWeakOfRandomCombinators(t *testing.T) {
	r := rand.New(rand.NewSource(8))
	for range 5000 {
		x := randomCombinator(r, 1+r.Intn(14))
		c, most, n := x.String(), r.Intn(30), 0
		large := false
		for n < most && !large {
			next, ok := x.weak()
			if !ok {
				break
			}
			x = next
			n++
			large = len(x.String()) > 5000
		}
		_, more := x.weak()
		got, steps, ok, e := beta.Weak(c, most)
		if large {
			if got != "" || steps != 0 || ok || e != api.ErrLarge {
				t.Fatalf("Weak of %q within %d: %q, %d, %t, %d", c, most, got, steps, ok, e)
			}
			continue
		}
		if got != x.String() || steps != n || ok == more || e != api.OK {
			t.Fatalf("Weak of %q within %d: %q, %d, %t, %d, not %q", c, most, got, steps, ok, e, x)
		}
	}
}

// P2.8: the term of the translation has the normal form of the term.
func TestTranslationsHaveTheNormalForm(t *testing.T) {
	r := rand.New(rand.NewSource(9))
	seen := 0
	for range 2000 {
		s := randomTree(r, 1+r.Intn(7), 0).String()
		want, _, ok, e := beta.Normal(s, 200)
		if !ok || e != api.OK {
			continue
		}
		c, e := beta.Translate(s)
		if e != api.OK {
			continue
		}
		f, e := beta.Term(c)
		if e != api.OK {
			continue
		}
		got, _, ok, e := beta.Normal(f, 1000)
		if !ok || e != api.OK {
			continue
		}
		seen++
		if got != want {
			t.Fatalf("%q has the normal form %q, its translation %q has %q", s, want, c, got)
		}
	}
	if seen < 1500 {
		t.Fatalf("%d translations", seen)
	}
}

// The chapter's examples, word for word.
func TestExamples(t *testing.T) {
	if f := index(t, `\x.\y.x`); f != `\\1` {
		t.Errorf("example 1: %q", f)
	}
	f := index(t, `(\x.xx)y`)
	if s, ok, e := beta.Step(f); f != `(\(0 0) y)` || s != "(y y)" || !ok || e != api.OK {
		t.Errorf("example 1: %q, %q, %t, %d", f, s, ok, e)
	}
	if s, n, ok, e := beta.Normal(index(t, `(\x.\y.x)ab`), 5); s != "a" || n != 2 || !ok || e != api.OK {
		t.Errorf("example 2: %q, %d, %t, %d", s, n, ok, e)
	}
	f = index(t, `(\x.xx)(\x.xx)`)
	if s, ok, e := beta.Step(f); s != f || !ok || e != api.OK {
		t.Errorf("example 2: %q, %t, %d", s, ok, e)
	}
	if c, e := beta.Translate(index(t, `\x.xx`)); c != "((S I) I)" || e != api.OK {
		t.Errorf("example 3: %q, %d", c, e)
	}
	if s, e := beta.Numeral(2); s != `\\(1 (1 0))` || e != api.OK {
		t.Errorf("example 3: %q, %d", s, e)
	}
	f = index(t, `(\x.xx)((\y.y)z)`)
	if s, e := beta.Develop(f); s != "(z z)" || e != api.OK {
		t.Errorf("example 4: %q, %d", s, e)
	}
	l, e := beta.Parallel(f)
	if strings.Join(l, ", ") != `((\0 z) (\0 z)), (\(0 0) (\0 z)), (\(0 0) z), (z z)` || e != api.OK {
		t.Errorf("example 4: %q, %d", l, e)
	}
}
