package shop_test

import (
	"slices"
	"strconv"
	"strings"
	"testing"

	"forcola/api"
	"forcola/shop"
)

// talk is lines and the replies to them, in turns.
type talk []string

// check does the lines and compares the replies.
func (l talk) check(t *testing.T, s *shop.Shop) {
	t.Helper()
	for i := 0; i < len(l); i += 2 {
		if got := s.Do(l[i]); got != l[i+1] {
			t.Errorf("%.80q: %.80q, not %q", l[i], got, l[i+1])
		}
	}
}

// told is a shop to which the lines were told, all of which it takes.
func told(t *testing.T, lines ...string) *shop.Shop {
	t.Helper()
	s := shop.New()
	for _, l := range lines {
		if got := s.Do(l); got != "ok" {
			t.Fatalf("%q: %q", l, got)
		}
	}
	return s
}

// each is the line with each of the numbers in place of its #.
func each(line string, from, to int) []string {
	var l []string
	for n := from; n <= to; n++ {
		l = append(l, strings.ReplaceAll(line, "#", strconv.Itoa(n)))
	}
	return l
}

// The examples of the chapter, and example 11 of the document.
func TestExamples(t *testing.T) {
	for _, l := range []talk{
		{"quarrel 0 1", "ok", "quarrel 1 2", "ok", "least", "least 1", "hues", "hues 2", "peace 2 1", "ok", "peace 2 1", "error 4"},
		{"rope ttrt", "ok", "value", "value 1 2", "knot", "knot 1 0", "rope x", "error 60"},
		{"rule S=aSb", "ok", "rule S=", "ok", "trees ab", "trees 1", "terms f(X,a) f(b,Y)", "ok", "unify", "unify yes", "general", "general f(A,B)", `normal (\x.xx)(\x.xx)`, "normal none"},
	} {
		l.check(t, shop.New())
	}
}

// A new shop has no edges, no rules, the empty word, no shifts, no results, no degrees, and the terms a and a.
func TestNew(t *testing.T) {
	s := shop.New()
	if s.Book() != "" || len(s.Edges()) != 0 || s.Rope() != "" {
		t.Errorf("book %q, edges %v, rope %q", s.Book(), s.Edges(), s.Rope())
	}
	talk{
		"least", "least 1", "trips 1", "trips 15", "hues", "hues 0", "apart", "apart u(vvvvvvvv)",
		"trees a", "error 30", "value", "value 0 1", "knot", "error 4",
		"boats", "error 1", "magnitude", "error 1", "kings", "error 5", "rounds", "error 5", "graph", "error 1",
		"unify", "unify yes", "general", "general a", "normal a", "normal a 0",
	}.check(t, s)
}

// P11.1: of nil, whatever the line is.
func TestDoOfNil(t *testing.T) {
	var s *shop.Shop
	for _, l := range []string{"", "#", "slip", "value", "quarrel 0 1", "quarrel 0 0", "what", "\n", "slip\n", strings.Repeat("x", 513), "#" + strings.Repeat("x", 600)} {
		if got := s.Do(l); got != "error 3" {
			t.Errorf("%.20q: %q", l, got)
		}
	}
}

// P11.1: at most api.MaxLine bytes, and no line feed.
func TestLongLines(t *testing.T) {
	if api.MaxLine != 512 {
		t.Fatal("the lengths here are for 512")
	}
	talk{
		"rope " + strings.Repeat("tT", 253) + "t", "ok",
		"rope " + strings.Repeat("tT", 254), "error 2",
		"#" + strings.Repeat("x", 511), "",
		"#" + strings.Repeat("x", 512), "error 2",
		strings.Repeat("x", 512), "error 110",
		strings.Repeat("x", 513), "error 2",
		strings.Repeat(" ", 513), "error 2",
		"#" + strings.Repeat("ä", 256), "error 2",
		strings.Repeat("x", 1<<20), "error 2",
		"slip\n", "error 2", "\nslip", "error 2", "\n", "error 2", "#\n", "error 2", "# slip\nslip", "error 2", "rope t\nT", "error 2", "what\n", "error 2",
		"value", "value 1 1",
	}.check(t, shop.New())
}

// P11.1: lines that are empty or begin with # have no reply.
func TestRemarks(t *testing.T) {
	s := shop.New()
	for _, l := range []string{"", "#", "# slip", "#slip", "##", "#  two blanks ", "#\t\r\x00\xff"} {
		if got := s.Do(l); got != "" {
			t.Errorf("%q: %q", l, got)
		}
	}
	talk{" ", "error 110", " #", "error 110", "\t", "error 110", "\r", "error 110", "\x00", "error 110", "slip #", "error 110"}.check(t, s)
	if s.Book() != "" {
		t.Errorf("book %q", s.Book())
	}
}

// P11.2: the book has the lines of the first table that had the reply ok, in order and as they were written.
func TestBook(t *testing.T) {
	s := shop.New()
	for _, l := range []string{
		"quarrel 1 0", "quarrel 0 1", "value", "", "# a remark", "peace 0 1", "peace 0 1", "rule S=a", "rule S=a", "rope tt", "rope x", "slip", "slip", "shift 3 4", "shift 4 3",
		"beat 5 0", "beat 0 5", "degree -7", "degree x", "terms X f(X)", "terms f(X f", "trips 2", "unify", "general", "normal x", "what", "slip ", strings.Repeat("x", 513), "rope t",
	} {
		s.Do(l)
	}
	const want = "quarrel 1 0\npeace 0 1\nrule S=a\nrope tt\nslip\nslip\nshift 3 4\nbeat 5 0\ndegree -7\nterms X f(X)\nrope t\n"
	if got := s.Book(); got != want {
		t.Errorf("book %q", got)
	}
}

// P11.2: the edges, in rising order, however they came about.
func TestEdges(t *testing.T) {
	s := told(t, "quarrel 7 6", "quarrel 0 7", "quarrel 1 0", "quarrel 2 1", "quarrel 5 0", "quarrel 3 2", "peace 1 2", "quarrel 6 1", "quarrel 4 3", "peace 3 4", "quarrel 3 4")
	want := [][2]int{{0, 1}, {0, 5}, {0, 7}, {1, 6}, {2, 3}, {3, 4}, {6, 7}}
	for range 20 {
		if got := s.Edges(); !slices.Equal(got, want) {
			t.Fatalf("edges %v", got)
		}
	}
	for a := range 8 {
		for b := range a {
			s.Do("quarrel " + strconv.Itoa(a) + " " + strconv.Itoa(b))
		}
	}
	if got := s.Edges(); len(got) != 28 || !slices.IsSortedFunc(got, func(d, e [2]int) int { return slices.Compare(d[:], e[:]) }) {
		t.Errorf("edges %v", got)
	}
}

// P11.2: of nil, empty, nil.
func TestNil(t *testing.T) {
	var s *shop.Shop
	if s.Book() != "" || len(s.Edges()) != 0 || s.Rope() != "" || s.Fork() != nil {
		t.Errorf("book %q, edges %v, rope %q, fork %v", s.Book(), s.Edges(), s.Rope(), s.Fork())
	}
}

// full are lines after which a shop has some of everything, and room for more.
var full = []string{
	"quarrel 0 1", "quarrel 1 2", "rule S=SS", "rule S=a", "rule S=b", "rope ttr", "shift 0 2", "shift 1 3", "shift 3 4", "beat 0 1", "beat 1 2", "beat 2 0",
	"degree 3", "degree 3", "degree 1", "terms f(X) f(b)",
}

// questions ask for all that a shop has. (What is missing in full, they are refused.)
var questions = []string{"least", "trips 1", "hues", "apart", "trees aaa", "trees c", "value", "knot", "boats", "magnitude", "kings", "rounds", "graph", "unify", "general", "normal xy"}

// state is what can be seen of a shop without changing it.
func state(s *shop.Shop) string {
	var b strings.Builder
	for _, q := range questions {
		b.WriteString(s.Do(q) + "\n")
	}
	b.WriteString(s.Rope() + "\n" + s.Book())
	for _, e := range s.Edges() {
		b.WriteString(strconv.Itoa(e[0]) + "-" + strconv.Itoa(e[1]) + "\n")
	}
	return b.String()
}

// P11.2: a fork is in the same state.
func TestFork(t *testing.T) {
	s := told(t, full...)
	f := s.Fork()
	if f == s || state(f) != state(s) {
		t.Errorf("fork: %q, not %q", state(f), state(s))
	}
	if f, s := shop.New().Fork(), shop.New(); state(f) != state(s) {
		t.Errorf("fork of a new shop: %q, not %q", state(f), state(s))
	}
	again := f.Fork().Fork()
	talk{"quarrel 1 0", "error 5", "rule S=a", "error 30", "beat 1 0", "error 5", "value", "value -1 2", "graph", "graph 0", "slip", "ok", "value", "value 0 1"}.check(t, again)
}

// P11.2: what is done to a shop is not seen in its fork, nor the other way.
func TestForkIsIndependent(t *testing.T) {
	changes := []string{
		"quarrel 6 7", "peace 0 1", "rule S=c", "rope t", "slip", "shift 2 2", "beat 3 4", "degree 2", "terms g(X) g(Y)",
	}
	others := []string{
		"quarrel 5 7", "peace 1 2", "rule S=d", "rope rt", "slip", "shift 9 9", "beat 4 3", "degree 8", "terms h X",
	}
	for i, change := range changes {
		plain, changed, other := told(t, full...), told(t, append(slices.Clone(full), change)...), told(t, append(slices.Clone(full), others[i])...)
		s := told(t, full...)
		f := s.Fork()
		f.Do(change)
		if state(s) != state(plain) || state(f) != state(changed) {
			t.Errorf("%s in the fork: %q and %q", change, state(s), state(f))
		}
		s.Do(others[i])
		if state(s) != state(other) || state(f) != state(changed) {
			t.Errorf("%s in the shop: %q and %q", others[i], state(s), state(f))
		}
		g := s.Fork()
		s.Do("slip")
		if state(g) != state(other) {
			t.Errorf("%s before the fork: %q", others[i], state(g))
		}
	}
}

// P11.2: nor where what a shop keeps has grown to another length.
func TestForkOfEachLength(t *testing.T) {
	grown := func(n int, more ...string) *shop.Shop {
		s := shop.New()
		for i := range n {
			talk{"rule S=" + strings.Repeat("b", i), "ok", "shift " + strconv.Itoa(i) + " " + strconv.Itoa(i), "ok", "degree 0", "ok", "slip", "ok"}.check(t, s)
		}
		for _, l := range more {
			talk{l, "ok"}.check(t, s)
		}
		return s
	}
	for n := range 12 {
		in := []string{"rule S=a", "shift 50 60", "degree 1", "terms b c"}
		out := []string{"rule S=aa", "shift -9 -9", "degree 0", "terms d d"}
		s := grown(n)
		f := s.Fork()
		for i := range in {
			talk{in[i], "ok"}.check(t, f)
			talk{out[i], "ok"}.check(t, s)
		}
		if want := state(grown(n, in...)); state(f) != want {
			t.Errorf("%d of each: the fork is %q, not %q", n, state(f), want)
		}
		if want := state(grown(n, out...)); state(s) != want {
			t.Errorf("%d of each: the shop is %q, not %q", n, state(s), want)
		}
	}
}

// R4, R7: edges are new each time, and the same.
func TestMemory(t *testing.T) {
	s := told(t, full...)
	before := state(s)
	l, m := s.Edges(), s.Edges()
	clear(l)
	if !slices.Equal(m, [][2]int{{0, 1}, {1, 2}}) || state(s) != before || state(s) != before || state(told(t, full...)) != before {
		t.Errorf("edges %v, state %q, before %q", m, state(s), before)
	}
}

// P11.3: the replies to all lines, without those that have none.
func TestRun(t *testing.T) {
	for _, x := range []struct{ text, want string }{
		{"", ""},
		{"\n", ""},
		{"\n\n#\n", ""},
		{"slip", "ok\n"},
		{"slip\n", "ok\n"},
		{"\nslip\n\n", "ok\n"},
		{"slip\n# slip\n\nslip\nvalue", "ok\nok\nvalue 0 1\n"},
		{"slip\r\nslip", "error 110\nok\n"},
		{"rope tt\nvalue\nrope rx\nvalue\nrope r\nvalue\n", "ok\nvalue 2 1\nerror 60\nvalue 2 1\nok\nvalue -1 2\n"},
		{strings.Repeat("x", 513) + "\nvalue\n" + strings.Repeat("#", 513), "error 2\nvalue 0 1\nerror 2\n"},
		{" \n", "error 110\n"},
	} {
		if got, e := shop.Run(x.text); got != x.want || e != api.OK {
			t.Errorf("Run of %.40q: %q, %d", x.text, got, e)
		}
	}
}

// P11.3: at most 65536 bytes, and api.MaxLines line feeds.
func TestRunLimits(t *testing.T) {
	line := strings.Repeat("#", 511) + "\n"
	for _, x := range []struct {
		text, want string
		e          api.Errno
	}{
		{strings.Repeat(line, 128), "", api.OK},
		{strings.Repeat(line, 128) + "#", "", api.ErrLong},
		{strings.Repeat(line, 127) + "value\n" + strings.Repeat("x", 506), "value 0 1\nerror 110\n", api.OK},
		{strings.Repeat(line, 127) + "value\n" + strings.Repeat("x", 507), "", api.ErrLong},
		{strings.Repeat("x", 65536), "error 2\n", api.OK},
		{strings.Repeat("x", 65537), "", api.ErrLong},
		{strings.Repeat("x", 1<<20), "", api.ErrLong},
		{strings.Repeat("\n", 2000), "", api.OK},
		{strings.Repeat("\n", 2001), "", api.ErrLong},
		{strings.Repeat("slip\n", 2000), strings.Repeat("ok\n", 2000), api.OK},
		{strings.Repeat("slip\n", 2000) + "value", strings.Repeat("ok\n", 2000) + "value 0 1\n", api.OK},
		{strings.Repeat("slip\n", 2001), "", api.ErrLong},
	} {
		if got, e := shop.Run(x.text); got != x.want || e != x.e {
			t.Errorf("Run of %d bytes %.10q: %.20q, %d", len(x.text), x.text, got, e)
		}
	}
}
