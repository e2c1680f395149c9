package beta_test

import (
	"math/rand"
	"strings"
	"testing"

	"forcola/api"
	"forcola/beta"
)

func repeat(s string, n int) string { return strings.Repeat(s, n) }

// lambdas is a form of n abstractions around s.
func lambdas(n int, s string) string { return repeat(`\`, n) + s }

// nested is a form of n applications of a, each in the second place of another one, around s.
func nested(n int, s string) string { return repeat("(a ", n) + s + repeat(")", n) }

// leftNested is the same in the first place.
func leftNested(n int, s string) string { return repeat("(", n) + s + repeat(" a)", n) }

// P2.1: what a form is.
func TestCheck(t *testing.T) {
	for _, x := range []struct {
		s    string
		want api.Errno
	}{
		{"a", api.OK}, {"z", api.OK}, {`\0`, api.OK}, {`\a`, api.OK}, {`\\1`, api.OK}, {"(a b)", api.OK}, {`(\(0 0) y)`, api.OK}, {`\(\1 0)`, api.OK}, {"((a b) c)", api.OK}, {"(a (b c))", api.OK},
		{lambdas(11, "10"), api.OK}, {lambdas(10, "10"), api.ErrLambda}, {lambdas(101, "100"), api.OK}, {lambdas(100, "100"), api.ErrLambda}, {lambdas(10, "9"), api.OK}, {lambdas(100, "99"), api.OK},
		{"", api.ErrLambda}, {"0", api.ErrLambda}, {`\1`, api.ErrLambda}, {`\\2`, api.ErrLambda}, {`(\0 0)`, api.ErrLambda}, {`(0 \0)`, api.ErrLambda}, {`\00`, api.ErrLambda}, {`\\01`, api.ErrLambda}, {lambdas(3, "-1"), api.ErrLambda}, {`\+0`, api.ErrLambda}, {`\0a`, api.ErrLambda}, {`\a0`, api.ErrLambda},
		{"ab", api.ErrLambda}, {"(a)", api.ErrLambda}, {"()", api.ErrLambda}, {"(a b", api.ErrLambda}, {"(a b))", api.ErrLambda}, {"(a  b)", api.ErrLambda}, {"(a b )", api.ErrLambda}, {"( a b)", api.ErrLambda}, {"(ab)", api.ErrLambda}, {"(a,b)", api.ErrLambda}, {"(a b c)", api.ErrLambda}, {"a b", api.ErrLambda}, {" a", api.ErrLambda}, {"a ", api.ErrLambda}, {"a\n", api.ErrLambda},
		{`\`, api.ErrLambda}, {`\\`, api.ErrLambda}, {`\x.x`, api.ErrLambda}, {`\ a`, api.ErrLambda}, {"(", api.ErrLambda}, {")", api.ErrLambda}, {"(a", api.ErrLambda}, {"(a ", api.ErrLambda}, {"A", api.ErrLambda}, {"`", api.ErrLambda}, {"{", api.ErrLambda}, {"/", api.ErrLambda}, {":", api.ErrLambda}, {"\u00e4", api.ErrLambda}, {"\xff", api.ErrLambda}, {"\x00", api.ErrLambda}, {"S", api.ErrLambda},
		{`\9`, api.ErrLambda}, {`\99999999999999999999999999`, api.ErrLambda}, {lambdas(2000, "18446744073709551616"), api.ErrLambda}, {lambdas(2000, "1"+repeat("0", 17000)), api.ErrLambda},
		{lambdas(2000, "a"), api.OK}, {lambdas(2000, "0"), api.OK}, {lambdas(2000, "1999"), api.OK}, {lambdas(2000, "2000"), api.ErrLambda}, {lambdas(2001, "a"), api.ErrLambda}, {lambdas(2001, "0"), api.ErrLambda},
		{nested(2000, "b"), api.OK}, {nested(2001, "b"), api.ErrLambda}, {leftNested(2000, "b"), api.OK}, {leftNested(2001, "b"), api.ErrLambda},
		{nested(1000, lambdas(1000, "999")), api.OK}, {nested(1001, lambdas(1000, "0")), api.ErrLambda}, {nested(1000, lambdas(1001, "0")), api.ErrLambda}, {lambdas(1000, nested(1000, "999")), api.OK}, {lambdas(1000, nested(1001, "999")), api.ErrLambda},
		{repeat(" ", 20000), api.ErrLambda}, {repeat(" ", 20001), api.ErrLong}, {repeat(`\`, 20000), api.ErrLambda}, {repeat(`\`, 20001), api.ErrLong}, {repeat("(", 20000), api.ErrLambda}, {repeat("a", 20001), api.ErrLong},
		{wide(20000), api.OK}, {wide(20001), api.ErrLong},
	} {
		if e := beta.Check(x.s); e != x.want {
			t.Errorf("Check of %.40q, %d bytes: %d, not %d", x.s, len(x.s), e, x.want)
		}
	}
}

// wide is a normal form of that many bytes and few levels.
func wide(bytes int) string {
	s, arm := "b", nested(500, "b")
	for bytes-len(s) >= len(arm)+len("( )") {
		s = "(" + arm + " " + s + ")"
	}
	// What is missing are applications of 4 bytes, and abstractions of one.
	s = nested((bytes-len(s))/4, s)
	return lambdas(bytes-len(s), s)
}

// calls are all calls that take a form; they report whether all but the error is zero. What else they are given is wrong.
func calls() map[string]func(s string) (bool, api.Errno) {
	return map[string]func(s string) (bool, api.Errno){
		"Check":   func(s string) (bool, api.Errno) { return true, beta.Check(s) },
		"Free":    func(s string) (bool, api.Errno) { l, e := beta.Free(s); return l == "", e },
		"Redexes": func(s string) (bool, api.Errno) { n, e := beta.Redexes(s); return n == 0, e },
		"Step":    func(s string) (bool, api.Errno) { f, ok, e := beta.Step(s); return f == "" && !ok, e },
		"Normal": func(s string) (bool, api.Errno) {
			f, n, ok, e := beta.Normal(s, -1)
			return f == "" && n == 0 && !ok, e
		},
		"Develop":   func(s string) (bool, api.Errno) { f, e := beta.Develop(s); return f == "", e },
		"Parallel":  func(s string) (bool, api.Errno) { l, e := beta.Parallel(s); return len(l) == 0, e },
		"Count":     func(s string) (bool, api.Errno) { n, ok, e := beta.Count(s); return n == 0 && !ok, e },
		"Translate": func(s string) (bool, api.Errno) { c, e := beta.Translate(s); return c == "", e },
	}
}

// P2.1: what Check returns comes first, with zero values next to it.
func TestFirstWhatCheckReturns(t *testing.T) {
	for name, call := range calls() {
		for s, want := range map[string]api.Errno{"": api.ErrLambda, "0": api.ErrLambda, "(a b": api.ErrLambda, `(\0 a`: api.ErrLambda, lambdas(2001, "0"): api.ErrLambda, nested(2001, "b"): api.ErrLambda, wide(20001): api.ErrLong, repeat("(", 20001): api.ErrLong} {
			if zero, e := call(s); !zero || e != want {
				t.Errorf("%s of %.20q: %d, not %d; zero values %t", name, s, e, want, zero)
			}
		}
	}
}

// P2.1: lambda terms and their index forms.
func TestIndex(t *testing.T) {
	for _, x := range [][2]string{
		{"x", "x"}, {"ab", "(a b)"}, {"abc", "((a b) c)"}, {"a(bc)", "(a (b c))"}, {"(a)", "a"}, {"((a))", "a"}, {"(ab)c", "((a b) c)"}, {"(ab)(cd)", "((a b) (c d))"},
		{`\x.x`, `\0`}, {`\x.y`, `\y`}, {`\x.\y.x`, `\\1`}, {`\x.\y.y`, `\\0`}, {`\x.\x.x`, `\\0`}, {`\x.\y.\x.xy`, `\\\(0 1)`}, {`\x.(\x.x)x`, `\(\0 0)`}, {`\x.x(\x.x)x`, `\((0 \0) 0)`}, {`x(\x.x)x`, `((x \0) x)`}, {`(\x.xx)y`, `(\(0 0) y)`}, {`(\x.\y.x)ab`, `((\\1 a) b)`}, {`(\x.xx)(\x.xx)`, `(\(0 0) \(0 0))`}, {`(\x.xx)((\y.y)z)`, `(\(0 0) (\0 z))`},
		{`\a.\b.\c.ac(bc)`, `\\\((2 0) (1 0))`}, {`\m.\n.\f.\x.mf(nfx)`, `\\\\((3 1) ((2 1) 0))`}, {`(\x.x)`, `\0`}, {`\x.(\y.xy)`, `\\(1 0)`}, {`\x.\y.zxy`, `\\((z 1) 0)`},
		{`\a.\b.\c.\d.\e.\f.\g.\h.\i.\j.\k.ab`, lambdas(11, "(10 9)")},
		{repeat("(", 100) + "a" + repeat(")", 100), "a"}, {repeat(`\x.`, 100) + "x", lambdas(100, "0")}, {`\y.` + repeat(`\x.`, 99) + "y", lambdas(100, "99")}, {repeat(`(\x.`, 50) + "x" + repeat(")", 50), lambdas(50, "0")}, {repeat(`\x.(`, 50) + "x" + repeat(")", 50), lambdas(50, "0")},
		{repeat("a", 1000), leftNested(999, "a")}, {repeat("a", 898) + repeat("(", 50) + "b" + repeat(")", 50) + "c", "((" + leftNested(897, "a") + " b) c)"},
	} {
		if s, e := beta.Index(x[0]); s != x[1] || e != api.OK {
			t.Errorf("Index of %.40q: %.80q, %d", x[0], s, e)
		}
	}
}

// P2.1: what is no lambda term.
func TestIndexOfNoLambdaTerm(t *testing.T) {
	for _, s := range []string{
		"", "A", "1", "0", "()", "(", ")", "(a", "a)", "a(", "a()", "a b", " a", "a ", "a.b", ".", `\`, `\x`, `\x.`, `\x.)`, `\.x`, `\xy.x`, `\x,x`, `\X.x`, `\1.x`, `\\x.x`, `\x x`, `\(x).x`, `\x..x`, `x\y.y`, `xy\y.y`, `(x\y.y)`, `(\x.x`, `\0`, "`", "{", "a\n", "\u00e4", "\xff", "a\x00", "(a))", "((a)", "S",
		repeat("(", 101) + "a" + repeat(")", 101), repeat(`\x.`, 101) + "x", repeat(`(\x.`, 50) + "(x)" + repeat(")", 50), repeat(`(\x.`, 50) + `\y.x` + repeat(")", 50), repeat("a", 500) + repeat("(", 101) + "a" + repeat(")", 101), repeat("(", 1000), repeat(" ", 1000),
	} {
		if f, e := beta.Index(s); f != "" || e != api.ErrLambda {
			t.Errorf("Index of %.40q: %.40q, %d", s, f, e)
		}
	}
	for _, s := range []string{repeat("a", 1001), repeat("(", 1001), repeat(" ", 1001)} {
		if f, e := beta.Index(s); f != "" || e != api.ErrLong {
			t.Errorf("Index of %.40q: %.40q, %d", s, f, e)
		}
	}
}

// P2.1: index forms of random terms; each is a form.
func TestIndexOfRandomTerms(t *testing.T) {
	r := rand.New(rand.NewSource(1))
	for range 5000 {
		s, want := randomLambda(r, 1+r.Intn(12), "")
		if len(s) > 1000 {
			continue
		}
		f, e := beta.Index(s)
		if f != want.String() || e != api.OK {
			t.Fatalf("Index of %q: %q, %d, not %q", s, f, e, want)
		}
		if e := beta.Check(f); e != api.OK {
			t.Fatalf("Check of %q: %d", f, e)
		}
	}
}

// P2.1: the largest lambda terms have index forms that are forms.
func TestIndexOfLargeTerms(t *testing.T) {
	for _, s := range []string{repeat("a", 1000), repeat("(", 100) + repeat("a", 800) + repeat(")", 100), repeat(`\x.`, 100) + repeat("x", 700), `\y.` + repeat(`\x.`, 99) + repeat("y", 700)} {
		f, e := beta.Index(s)
		if len(s) != 1000 || e != api.OK || beta.Check(f) != api.OK {
			t.Errorf("Index of %.40q: %d bytes, %d", s, len(f), e)
		}
	}
}

// P2.1: free letters and redexes.
func TestFreeRedexes(t *testing.T) {
	for _, x := range []struct {
		s, free string
		redexes int
	}{
		{"a", "a", 0}, {`\0`, "", 0}, {"(z (a (z m)))", "amz", 0}, {`\(0 b)`, "b", 0}, {`(\0 x)`, "x", 1}, {`(\(0 0) (\0 z))`, "z", 2}, {`((\\1 b) a)`, "ab", 1}, {`\(\0 (\\0 \(\0 c)))`, "c", 3}, {`(\(\0 0) \(\0 0))`, "", 3}, {`(a \0)`, "a", 0}, {`((a \0) b)`, "ab", 0}, {`((\0 \0) a)`, "a", 1},
		{"(z (y (x (w (v (u (t (s (r (q (p (o (n (m (l (k (j (i (h (g (f (e (d (c (b a)))))))))))))))))))))))))", "abcdefghijklmnopqrstuvwxyz", 0},
		{repeat(`(\0 `, 1999) + `\a` + repeat(")", 1999), "a", 1999}, {wide(20000), "ab", 0},
	} {
		if l, e := beta.Free(x.s); l != x.free || e != api.OK {
			t.Errorf("Free of %.40q: %q, %d", x.s, l, e)
		}
		if n, e := beta.Redexes(x.s); n != x.redexes || e != api.OK {
			t.Errorf("Redexes of %.40q: %d, %d", x.s, n, e)
		}
	}
}

// P2.1: redexes and free letters of random terms.
func TestFreeRedexesOfRandomTerms(t *testing.T) {
	r := rand.New(rand.NewSource(2))
	for range 3000 {
		x := randomTree(r, 1+r.Intn(10), 0)
		s := x.String()
		if n, e := beta.Redexes(s); n != len(x.steps()) || e != api.OK {
			t.Fatalf("Redexes of %q: %d, %d", s, n, e)
		}
		want := ""
		for _, l := range []string{"x", "y", "z"} {
			if strings.Contains(s, l) {
				want += l
			}
		}
		if l, e := beta.Free(s); l != want || e != api.OK {
			t.Fatalf("Free of %q: %q, %d", s, l, e)
		}
	}
}
