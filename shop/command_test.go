package shop_test

import (
	"slices"
	"strconv"
	"strings"
	"testing"

	"forcola/shop"
)

// P11.1: quarrel and peace: ErrArg for who is none of eight, or for one alone, before all else.
func TestQuarrels(t *testing.T) {
	s := shop.New()
	for _, first := range []string{"quarrel ", "peace "} {
		for _, two := range []string{"-1 0", "0 -1", "8 0", "0 8", "7 8", "8 7", "8 8", "-1 -1", "0 0", "7 7", "3 3", "-1000000 1000000", "1000000 1"} {
			talk{first + two, "error 1"}.check(t, s)
		}
	}
	for a := range 8 {
		for b := range 8 {
			if a == b {
				continue
			}
			ab, ba := strconv.Itoa(a)+" "+strconv.Itoa(b), strconv.Itoa(b)+" "+strconv.Itoa(a)
			talk{
				"peace " + ab, "error 4", "peace " + ba, "error 4", "quarrel " + ab, "ok", "quarrel " + ab, "error 5", "quarrel " + ba, "error 5",
				"peace " + ba, "ok", "peace " + ba, "error 4", "peace " + ab, "error 4", "quarrel " + ba, "ok", "peace " + ba, "ok",
			}.check(t, s)
		}
	}
	talk{"quarrel 4 2", "ok", "quarrel 2 7", "ok"}.check(t, s)
	if got := s.Edges(); !slices.Equal(got, [][2]int{{2, 4}, {2, 7}}) {
		t.Errorf("edges %v", got)
	}
}

// P11.1: rule: what is not a rule, or exists, comes before there being twelve.
func TestRules(t *testing.T) {
	bad := []string{"S", "=", "=a", "s=a", "S=a=b", "S=a.", "S:a", "SS=a", "S=aaaaaaaaaaaaa", "S=1", "S=\xff", "S=ä", "S=a\tb", "S=a#", "ab", "0"}
	s := shop.New()
	refuse := func(words ...string) {
		t.Helper()
		for _, w := range words {
			talk{"rule " + w, "error 30"}.check(t, s)
		}
	}
	refuse(bad...)
	talk{"rule S=", "ok", "rule S=aaaaaaaaaaaa", "ok", "rule A=SSSSSSSSSSSS", "ok", "rule Z=z", "ok"}.check(t, s)
	refuse(append(bad, "S=", "Z=z", "A=SSSSSSSSSSSS")...)
	talk{"rule A=", "ok", "rule S=A", "ok", "rule B=b", "ok", "rule C=c", "ok", "rule D=d", "ok", "rule E=e", "ok", "rule F=f", "ok", "rule G=g", "ok", "rule H=h", "error 8", "rule S=a", "error 8"}.check(t, s)
	refuse(append(bad, "S=", "Z=z", "G=g", "S=A")...)
	talk{"trees z", "trees 0", "trees aaaaaaaaaaaa", "error 31", "rule H=h", "error 8"}.check(t, s)
}

// The first rule is that of the start symbol: so the others come after it.
func TestRulesInOrder(t *testing.T) {
	talk{"rule A=a", "ok", "rule S=AA", "ok", "trees a", "trees 1", "trees aa", "trees 0"}.check(t, shop.New())
	talk{"rule S=AA", "ok", "rule A=a", "ok", "trees a", "trees 0", "trees aa", "trees 1"}.check(t, shop.New())
}

// P11.1: rope: what Value returns for the whole.
func TestRope(t *testing.T) {
	s := shop.New()
	talk{
		"rope t", "ok", "rope tr", "ok", "rope x", "error 60", "rope R", "error 60", "rope tTx", "error 60", "rope t.", "error 60", "rope \xff", "error 60", "rope 1", "error 60", "rope ttt\t", "error 60",
		"value", "value -1 2", "rope T", "ok", "value", "value -3 2",
	}.check(t, s)
	if got := s.Rope(); got != "ttrT" {
		t.Errorf("rope %q", got)
	}
	talk{"slip", "ok", "value", "value 0 1", "slip", "ok"}.check(t, s)
	if got := s.Rope(); got != "" {
		t.Errorf("rope %q", got)
	}
}

// P11.1: a rope has at most 2000 letters, which comes before what they are.
func TestLongRope(t *testing.T) {
	s := shop.New()
	for range 4 {
		talk{"rope " + strings.Repeat("tT", 240), "ok"}.check(t, s)
	}
	talk{"rope " + strings.Repeat("r", 81), "error 2", "rope " + strings.Repeat("x", 81), "error 2", "rope " + strings.Repeat("x", 80), "error 60", "rope " + strings.Repeat("r", 79), "ok", "rope tt", "error 2", "rope x", "error 60", "rope t", "ok", "rope t", "error 2", "rope x", "error 2", "value", "value 1 0"}.check(t, s)
	if want := strings.Repeat("tT", 960) + strings.Repeat("r", 79) + "t"; s.Rope() != want {
		t.Errorf("rope %q", s.Rope())
	}
	talk{"slip", "ok", "rope t", "ok", "value", "value 1 1"}.check(t, s)
}

// P11.1: a rope whose numbers grow too large is refused, and the rope stays what it is.
func TestLargeRope(t *testing.T) {
	s := told(t, "rope "+strings.Repeat("tttr", 30))
	before := s.Rope()
	talk{"rope " + strings.Repeat("tttr", 10), "error 12", "rope " + strings.Repeat("tttr", 10) + "x", "error 60"}.check(t, s)
	if s.Rope() != before {
		t.Errorf("rope %q", s.Rope())
	}
}

// P11.1: shift: a left that is greater comes before there being twelve.
func TestShifts(t *testing.T) {
	s := shop.New()
	talk{"shift 1 0", "error 1", "shift 0 -1", "error 1", "shift 1000000 -1000000", "error 1"}.check(t, s)
	for i, l := range each("shift # 20", 9, 20) {
		talk{"shift 21 20", "error 1", l, "ok", "boats", "boats " + strconv.Itoa(i+1) + " " + strconv.Itoa(9+i)}.check(t, s)
	}
	talk{"shift 20 20", "error 8", "shift 0 0", "error 8", "shift 21 20", "error 1", "boats", "boats 12 20"}.check(t, s)
}

// P11.1: beat: ErrArg for what is none of six boats, or for one alone, before all else.
func TestBeats(t *testing.T) {
	s := shop.New()
	for _, two := range []string{"-1 0", "0 -1", "6 0", "0 6", "5 6", "6 5", "6 6", "7 1", "-1 -1", "0 0", "5 5", "-1000000 1000000"} {
		talk{"beat " + two, "error 1"}.check(t, s)
	}
	for a := range 6 {
		for b := range a {
			ab, ba := strconv.Itoa(a)+" "+strconv.Itoa(b), strconv.Itoa(b)+" "+strconv.Itoa(a)
			talk{"kings", "error 5", "rounds", "error 5", "beat " + ab, "ok", "beat " + ab, "error 5", "beat " + ba, "error 5", "beat 6 6", "error 1"}.check(t, s)
		}
	}
	talk{"kings", "kings 5", "rounds", "rounds 0"}.check(t, s)
}

// P11.1: degree: any number, sixteen of them.
func TestDegrees(t *testing.T) {
	s := shop.New()
	for range 15 {
		talk{"degree 14", "ok"}.check(t, s)
	}
	talk{"graph", "graph yes"}.check(t, s)
	talk{"degree 14", "ok", "graph", "graph yes", "degree 14", "error 8", "degree 0", "error 8", "degree -1000000", "error 8", "graph", "graph yes"}.check(t, s)
}

// P11.1: terms: what Check returns for both.
func TestTerms(t *testing.T) {
	s := shop.New()
	levels := func(n int) string { return strings.Repeat("f(", n-1) + "a" + strings.Repeat(")", n-1) }
	talk{
		"terms a b", "ok", "unify", "unify no", "general", "general A",
		"terms f(a f(a)", "error 10", "terms f(a) f(a", "error 10", "terms A1 a", "error 10", "terms abcdefg a", "error 10", "terms AB a", "error 10", "terms () a", "error 10", "terms f() a", "error 10", "terms \xff a", "error 10", "terms a #", "error 10",
		"terms f f(a)", "error 11", "terms f(a,b) f(a)", "error 11", "terms f(f) a", "error 11", "terms f(a,f(b)) x", "error 11",
		"terms f(a,f(b)) f(", "error 10", "terms f(f) 1", "error 10",
		"terms " + levels(21) + " a", "error 10", "terms a " + levels(21), "error 10",
		"unify", "unify no", "general", "general A",
		"terms " + levels(20) + " " + levels(20), "ok", "unify", "unify yes", "general", "general " + levels(20),
		"terms X X", "ok", "general", "general A",
	}.check(t, s)
	if got := s.Book(); !strings.HasPrefix(got, "terms a b\nterms f(f(") || strings.Count(got, "\n") != 3 {
		t.Errorf("book %q", got)
	}
}
