package beta_test

import (
	"fmt"
	"math/rand"
	"slices"
	"strings"
	"testing"

	"forcola/api"
	"forcola/beta"
)

// index is the index form of a lambda term that is known to be right.
func index(t *testing.T, s string) string {
	t.Helper()
	f, e := beta.Index(s)
	if e != api.OK {
		t.Fatalf("Index of %q: %d", s, e)
	}
	return f
}

// P2.2: first steps.
func TestStep(t *testing.T) {
	for _, x := range []struct {
		s, want string
		ok      bool
	}{
		{`(\(0 0) y)`, "(y y)", true}, {`(\(0 0) \(0 0))`, `(\(0 0) \(0 0))`, true}, {"a", "a", false}, {`\0`, `\0`, false}, {"(a b)", "(a b)", false}, {`(a \0)`, `(a \0)`, false}, {`\\\((2 0) (1 0))`, `\\\((2 0) (1 0))`, false},
		{`(\0 (\0 z))`, `(\0 z)`, true}, {`((\0 a) (\0 b))`, `(a (\0 b))`, true}, {`(a (\0 b))`, "(a b)", true}, {`\(\0 0)`, `\0`, true}, {`(\(\0 0) (\0 a))`, `(\0 (\0 a))`, true}, {`((\\1 a) b)`, `(\a b)`, true},
		{`\(\\1 0)`, `\\1`, true}, {`\\(\\1 (1 0))`, `\\\(2 1)`, true}, {`\\(\\(1 (2 3)) 0)`, `\\\(1 (1 2))`, true}, {`\(\\\((2 0) 3) \(1 0))`, `\\\((\(3 0) 0) 2)`, true}, {`(\\(1 0) (a b))`, `\((a b) 0)`, true}, {`(\a b)`, "a", true}, {`\\(\1 0)`, `\\0`, true}, {`\(\\2 a)`, `\\1`, true}, {`(\\\2 \0)`, `\\\0`, true},
	} {
		if f, ok, e := beta.Step(x.s); f != x.want || ok != x.ok || e != api.OK {
			t.Errorf("Step of %q: %q, %t, %d", x.s, f, ok, e)
		}
	}
}

// P2.2: a letter that is free in an argument remains free.
func TestStepDoesNotCapture(t *testing.T) {
	for _, x := range [][2]string{{`(\x.\y.x)y`, `\y`}, {`(\x.\y.xy)y`, `\(y 0)`}, {`\y.(\x.\y.xy)y`, `\\(1 0)`}, {`\a.\b.(\x.\b.xb)(ab)`, `\\\((2 1) 0)`}} {
		if f, ok, e := beta.Step(index(t, x[0])); f != x[1] || !ok || e != api.OK {
			t.Errorf("Step of %q: %q, %t, %d", x[0], f, ok, e)
		}
	}
}

// P2.2: results of 20000 bytes and 2000 levels, and one more.
func TestStepLimits(t *testing.T) {
	for _, x := range []struct {
		s    string
		want string
	}{
		{`(\\(1 1) ` + wide(9998) + ")", `\(` + wide(9998) + " " + wide(9998) + ")"}, {`(\(0 0) ` + wide(9999) + ")", ""}, {`(\(0 0) ` + wide(9998) + ")", "(" + wide(9998) + " " + wide(9998) + ")"},
		{`(\` + lambdas(1000, "1000") + " " + nested(1000, "b") + ")", lambdas(1000, nested(1000, "b"))}, {`(\` + lambdas(1000, "1000") + " " + nested(1001, "b") + ")", ""},
		{"(" + lambdas(1001, "1000") + " " + nested(1000, "b") + ")", lambdas(1000, nested(1000, "b"))}, {"(" + lambdas(1002, "1001") + " " + nested(1000, "b") + ")", ""},
		{`(\` + nested(1000, "0") + " " + nested(1000, "b") + ")", nested(2000, "b")}, {`(\` + nested(1001, "0") + " " + nested(1000, "b") + ")", ""},
	} {
		want, ok := api.OK, true
		if x.want == "" {
			want, ok = api.ErrLarge, false
		}
		if f, is, e := beta.Step(x.s); f != x.want || is != ok || e != want {
			t.Errorf("Step of %.30q: %d bytes, %t, %d", x.s, len(f), is, e)
		}
		steps := 0
		if ok {
			steps = 1
		}
		more, _ := beta.Redexes(x.want)
		if f, n, is, e := beta.Normal(x.s, 1); f != x.want || n != steps || is != (ok && more == 0) || e != want {
			t.Errorf("Normal of %.30q: %d bytes, %d, %t, %d", x.s, len(f), n, is, e)
		}
		if f, e := beta.Develop(x.s); f != x.want || e != want {
			t.Errorf("Develop of %.30q: %d bytes, %d", x.s, len(f), e)
		}
		if l, e := beta.Parallel(x.s); e != want || ok && !slices.Contains(l, x.want) || !ok && len(l) != 0 {
			t.Errorf("Parallel of %.30q: %d forms, %d", x.s, len(l), e)
		}
		if f, n, is, e := beta.Normal(x.s, 0); f != x.s || n != 0 || is || e != api.OK {
			t.Errorf("Normal of %.30q within no steps: %d bytes, %d, %t, %d", x.s, len(f), n, is, e)
		}
	}
}

// P2.2: normal forms.
func TestNormal(t *testing.T) {
	kab, omega := `((\\1 a) b)`, `(\(0 0) \(0 0))`
	for _, x := range []struct {
		s    string
		most int
		want string
		n    int
		ok   bool
	}{
		{kab, 5, "a", 2, true}, {kab, 2, "a", 2, true}, {kab, 1, `(\a b)`, 1, false}, {kab, 0, kab, 0, false}, {kab, 1000, "a", 2, true}, {"a", 0, "a", 0, true}, {"a", 1000, "a", 0, true}, {`\(0 0)`, 3, `\(0 0)`, 0, true},
		{omega, 0, omega, 0, false}, {omega, 1000, omega, 1000, false}, {`((\\1 a) ` + omega + ")", 1000, "a", 2, true}, {"(a " + omega + ")", 7, "(a " + omega + ")", 7, false}, {`((\\0 ` + omega + `) \0)`, 9, `\0`, 2, true}, {`(\(0 0) (\0 a))`, 9, "(a a)", 3, true},
	} {
		if f, n, ok, e := beta.Normal(x.s, x.most); f != x.want || n != x.n || ok != x.ok || e != api.OK {
			t.Errorf("Normal of %q within %d: %q, %d, %t, %d", x.s, x.most, f, n, ok, e)
		}
	}
}

// P2.2: most is from 0 to 1000.
func TestNormalErrArg(t *testing.T) {
	for _, most := range []int{-1, 1001, -1 << 63, 1<<63 - 1, 1 << 32} {
		if f, n, ok, e := beta.Normal(`(\0 a)`, most); f != "" || n != 0 || ok || e != api.ErrArg {
			t.Errorf("Normal within %d: %q, %d, %t, %d", most, f, n, ok, e)
		}
	}
}

// P2.2: a form on the way that is too large is an error, even if later ones are small; it is none if it is not reached.
func TestNormalLargeOnTheWay(t *testing.T) {
	s := `(\((\\1 a) (0 0)) ` + wide(10000) + ")"
	for most, want := range []api.Errno{api.OK, api.ErrLarge, api.ErrLarge, api.ErrLarge, api.ErrLarge} {
		f, n, ok, e := beta.Normal(s, most)
		if e != want || n != 0 || ok || want == api.OK && f != s || want != api.OK && f != "" {
			t.Errorf("Normal within %d: %d bytes, %d, %t, %d", most, len(f), n, ok, e)
		}
	}
}

// P2.2: a term that grows with each step, up to the last form that is not too large.
func TestNormalGrows(t *testing.T) {
	w := `\(((0 0) 0) 0)`
	want, most := "("+w+" "+w+")", 0
	s := want
	for {
		next := strings.Replace(want, "("+w+" "+w+")", "((("+w+" "+w+") "+w+") "+w+")", 1)
		if len(next) > 20000 {
			break
		}
		want = next
		most++
	}
	if f, n, ok, e := beta.Normal(s, most); f != want || n != most || ok || e != api.OK {
		t.Errorf("Normal within %d: %d bytes, %d, %t, %d", most, len(f), n, ok, e)
	}
	if f, n, ok, e := beta.Normal(s, most+1); f != "" || n != 0 || ok || e != api.ErrLarge {
		t.Errorf("Normal within %d: %d bytes, %d, %t, %d", most+1, len(f), n, ok, e)
	}
}

// P2.2: steps of random terms are those of the definition.
func TestStepsOfRandomTerms(t *testing.T) {
	r := rand.New(rand.NewSource(3))
	for range 3000 {
		x := randomTree(r, 1+r.Intn(10), 0)
		s := x.String()
		want := x
		all := x.steps()
		if len(all) > 0 {
			want = all[0]
		}
		if f, ok, e := beta.Step(s); f != want.String() || ok != (len(all) > 0) || e != api.OK {
			t.Fatalf("Step of %q: %q, %t, %d, not %q", s, f, ok, e, want)
		}
		most := r.Intn(8)
		n := 0
		for n < most && len(x.steps()) > 0 {
			x = x.steps()[0]
			n++
		}
		if f, steps, ok, e := beta.Normal(s, most); f != x.String() || steps != n || ok != (len(x.steps()) == 0) || e != api.OK {
			t.Fatalf("Normal of %q within %d: %q, %d, %t, %d, not %q, %d", s, most, f, steps, ok, e, x, n)
		}
	}
}

// P2.3: developments and parallel steps.
func TestDevelopParallel(t *testing.T) {
	for _, x := range []struct {
		s, develop string
		parallel   []string
	}{
		{"a", "a", []string{"a"}}, {`\0`, `\0`, []string{`\0`}}, {`(\0 a)`, "a", []string{`(\0 a)`, "a"}}, {`(\0 (\0 a))`, "a", []string{`(\0 (\0 a))`, `(\0 a)`, "a"}},
		{`(\(0 0) (\0 z))`, "(z z)", []string{`((\0 z) (\0 z))`, `(\(0 0) (\0 z))`, `(\(0 0) z)`, "(z z)"}},
		{`(\(0 0) \(0 0))`, `(\(0 0) \(0 0))`, []string{`(\(0 0) \(0 0))`}},
		{`((\\1 a) b)`, `(\a b)`, []string{`((\\1 a) b)`, `(\a b)`}}, {`(\(0 a) \0)`, `(\0 a)`, []string{`(\(0 a) \0)`, `(\0 a)`}}, {`(\a (\0 b))`, "a", []string{`(\a (\0 b))`, `(\a b)`, "a"}},
		{`\(\(0 1) (\0 0))`, `\(0 0)`, []string{`\((\0 0) 0)`, `\(0 0)`, `\(\(0 1) (\0 0))`, `\(\(0 1) 0)`}},
	} {
		if f, e := beta.Develop(x.s); f != x.develop || e != api.OK {
			t.Errorf("Develop of %q: %q, %d", x.s, f, e)
		}
		if l, e := beta.Parallel(x.s); !slices.Equal(l, x.parallel) || e != api.OK {
			t.Errorf("Parallel of %q: %q, %d", x.s, l, e)
		}
	}
}

// P2.3: parallel steps of random terms are those of the definition.
func TestParallelOfRandomTerms(t *testing.T) {
	r := rand.New(rand.NewSource(4))
	counts := map[int]int{}
	for range 3000 {
		x := randomTree(r, 1+r.Intn(12), 0)
		s, redexes := x.String(), len(x.steps())
		counts[redexes]++
		if redexes > 6 {
			if l, e := beta.Parallel(s); len(l) != 0 || e != api.ErrLong {
				t.Fatalf("Parallel of %q: %d, %d", s, len(l), e)
			}
			continue
		}
		var want []string
		for _, y := range x.parallel() {
			want = append(want, y.String())
		}
		slices.Sort(want)
		if l, e := beta.Parallel(s); !slices.Equal(l, slices.Compact(want)) || e != api.OK {
			t.Fatalf("Parallel of %q: %q, %d, not %q", s, l, e, want)
		}
		if f, e := beta.Develop(s); f != x.develop().String() || e != api.OK {
			t.Fatalf("Develop of %q: %q, %d, not %q", s, f, e, x.develop())
		}
	}
	if counts[6] == 0 || counts[7] == 0 {
		t.Fatalf("redexes: %v", counts)
	}
}

// redexes is a form of that many redexes side by side.
func redexes(n int) string {
	s := "a"
	for i := range n {
		s = fmt.Sprintf(`(%s (\0 %c))`, s, 'a'+i)
	}
	return s
}

// P2.3: at most 6 redexes; ErrLong comes before ErrLarge.
func TestParallelErrors(t *testing.T) {
	if l, e := beta.Parallel(redexes(6)); len(l) != 64 || e != api.OK {
		t.Errorf("Parallel of 6 redexes: %d, %d", len(l), e)
	}
	if l, e := beta.Parallel(redexes(7)); len(l) != 0 || e != api.ErrLong {
		t.Errorf("Parallel of 7 redexes: %d, %d", len(l), e)
	}
	if l, e := beta.Parallel("(" + redexes(6) + ` (\(0 0) ` + wide(10000) + "))"); len(l) != 0 || e != api.ErrLong {
		t.Errorf("Parallel: %d, %d", len(l), e)
	}
	if l, e := beta.Parallel("(" + redexes(5) + ` (\(0 0) ` + wide(10000) + "))"); len(l) != 0 || e != api.ErrLarge {
		t.Errorf("Parallel: %d, %d", len(l), e)
	}
	// Only the step that contracts the inner redex alone leads to a large term.
	if l, e := beta.Parallel(`(\a (\(0 0) ` + wide(10000) + "))"); len(l) != 0 || e != api.ErrLarge {
		t.Errorf("Parallel: %d, %d", len(l), e)
	}
	l, _ := beta.Parallel(redexes(1))
	l[0] = ""
	if l, _ := beta.Parallel(redexes(1)); l[0] == "" {
		t.Errorf("Parallel keeps its result")
	}
}

// doubled is a form of n redexes whose development has 2^n letters.
func doubled(n int) string { return repeat(`(\(0 0) `, n) + "a" + repeat(")", n) }

// P2.3: only the development itself is measured: what an abstraction drops may be of any size.
func TestDevelopLarge(t *testing.T) {
	for _, n := range []int{12, 13, 40, 1000} {
		want := api.OK
		if n > 12 {
			want = api.ErrLarge
		}
		if f, e := beta.Develop(doubled(n)); e != want || (f == "") != (want != api.OK) {
			t.Errorf("Develop of %d doublings: %d bytes, %d", n, len(f), e)
		}
		if f, e := beta.Develop(`(\a ` + doubled(n) + ")"); f != "a" || e != api.OK {
			t.Errorf("Develop of %d doublings that are dropped: %q, %d", n, f, e)
		}
		if f, e := beta.Develop(`(\(\1 ` + doubled(n) + ") " + doubled(3) + ")"); f != "(((a a) (a a)) ((a a) (a a)))" || e != api.OK {
			t.Errorf("Develop of %d doublings that are dropped: %q, %d", n, f, e)
		}
	}
	if n, e := beta.Redexes(doubled(1000)); n != 1000 || e != api.OK {
		t.Errorf("Redexes: %d, %d", n, e)
	}
}

// P1: calls end soon for the largest forms: chains of arguments that are only passed on, and terms that steps do not make smaller.
func TestLargestFormsEndSoon(t *testing.T) {
	// Each letter of the end is passed on 900 times.
	chain := repeat(`(\`, 900) + nested(2000-1805, "0") + repeat(" 0)", 899) + " b)"
	if f, e := beta.Develop(`(\` + chain[:len(chain)-len(" b)")] + " 0) b)"); e != api.OK || f != nested(2000-1805, "b") {
		t.Errorf("Develop of a chain: %.40q, %d", f, e)
	}
	body := "0"
	for range 11 {
		body = "(" + body + " " + body + ")"
	}
	chain = repeat(`(\`, 800) + body + repeat(" 0)", 799) + " b)"
	if f, e := beta.Develop(chain); e != api.OK || len(f) != 4<<11-3 {
		t.Errorf("Develop of a chain: %d bytes, %d", len(f), e)
	}
	x := `\((\(1 1)) ` + wide(6000) + ")"
	s := "(" + x[:2] + `\(1 1) ` + wide(6000) + ") " + x[:2] + `\(1 1) ` + wide(6000) + "))"
	if f, n, ok, e := beta.Normal(s, 1000); f != s || n != 1000 || ok || e != api.OK {
		t.Errorf("Normal of a large circle: %d bytes, %d, %t, %d", len(f), n, ok, e)
	}
	deep := nested(1900, `(\(0 0) \(0 0))`)
	if f, n, ok, e := beta.Normal(deep, 1000); f != deep || n != 1000 || ok || e != api.OK {
		t.Errorf("Normal of a deep circle: %d bytes, %d, %t, %d", len(f), n, ok, e)
	}
	around := lambdas(1500, repeat("(1499 ", 400)+redexes(6)+repeat(")", 400))
	if l, e := beta.Parallel(around); len(l) != 64 || e != api.OK {
		t.Errorf("Parallel below many abstractions: %d, %d", len(l), e)
	}
}

// P2.6: after any parallel step, one leads to the development.
func TestParallelStepsJoin(t *testing.T) {
	r := rand.New(rand.NewSource(5))
	seen := 0
	for range 1500 {
		s := randomTree(r, 1+r.Intn(9), 0).String()
		after, e := beta.Parallel(s)
		if e != api.OK {
			continue
		}
		development, _ := beta.Develop(s)
		for _, f := range after {
			next, e := beta.Parallel(f)
			if e != api.OK {
				continue
			}
			seen++
			if !slices.Contains(next, development) {
				t.Fatalf("%q becomes %q, from which no parallel step leads to %q", s, f, development)
			}
		}
	}
	if seen < 2000 {
		t.Fatalf("%d steps", seen)
	}
}

// P2.7: first steps lead to the normal term to which any steps lead.
func TestFirstStepsLeadToTheNormalForm(t *testing.T) {
	r := rand.New(rand.NewSource(6))
	seen := 0
	for range 2000 {
		x := randomTree(r, 1+r.Intn(9), 0)
		s := x.String()
		for range 30 {
			all := x.steps()
			if len(all) == 0 || len(x.String()) > 2000 {
				break
			}
			x = all[r.Intn(len(all))]
		}
		if len(x.steps()) > 0 {
			continue
		}
		seen++
		if f, _, ok, e := beta.Normal(s, 1000); f != x.String() || !ok || e != api.OK {
			t.Fatalf("Normal of %q: %q, %t, %d; other steps lead to %q", s, f, ok, e, x)
		}
	}
	if seen < 1000 {
		t.Fatalf("%d normal forms", seen)
	}
}
