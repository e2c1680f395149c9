package shop_test

import (
	"slices"
	"strconv"
	"strings"
	"testing"

	"forcola/shop"
)

// arguments are, for the first word of each line, words that may follow it.
var arguments = map[string][]string{
	"quarrel": {"0", "1"}, "peace": {"0", "1"}, "rule": {"S=z"}, "rope": {"t"}, "slip": {}, "shift": {"0", "1"}, "beat": {"3", "4"}, "degree": {"1"}, "terms": {"a", "b"},
	"least": {}, "trips": {"1"}, "hues": {}, "apart": {}, "trees": {"a"}, "value": {}, "knot": {}, "boats": {}, "magnitude": {}, "kings": {}, "rounds": {}, "graph": {}, "unify": {}, "general": {}, "normal": {"x"},
}

// P11.1: any other number of words is refused, and so is any other blank.
func TestNumberOfWords(t *testing.T) {
	for first, right := range arguments {
		for n := range 5 {
			words := append([]string{first}, append(slices.Clone(right), "1", "1", "1", "1")[:n]...)
			line := strings.Join(words, " ")
			if got := told(t, full...).Do(line); (got == "error 110") != (n != len(right)) {
				t.Errorf("%q: %q", line, got)
			}
		}
		line := strings.Join(append([]string{first}, right...), " ")
		for _, l := range []string{" " + line, line + " ", strings.Replace(line+" ", " ", "  ", 1), strings.ReplaceAll(line, " ", "  ") + "  ", strings.ReplaceAll(line+" ", " ", "\t"), line + "\r", line + " #"} {
			s := told(t, full...)
			if got := s.Do(l); got != "error 110" && !isOtherWord(first, l) {
				t.Errorf("%q: %q", l, got)
			}
		}
	}
}

// isOtherWord reports whether the line is right in form, with a last word that is any word.
func isOtherWord(first, line string) bool {
	isWord := first == "rule" || first == "rope" || first == "trees" || first == "normal" || first == "terms"
	return isWord && strings.HasSuffix(line, "\r")
}

// P11.1: what is no first word of the tables is refused, whatever follows.
func TestFirstWords(t *testing.T) {
	s := shop.New()
	before := state(s)
	for first := range arguments {
		for _, w := range []string{strings.ToUpper(first), strings.ToUpper(first[:1]) + first[1:], first + "s", first[1:], first + ".", first + "\t", "/" + first, first + "\x00"} {
			if _, ok := arguments[w]; ok {
				continue
			}
			for _, rest := range []string{"", " a", " 0", " 0 1", " a b", " 0 1 2"} {
				if got := s.Do(w + rest); got != "error 110" {
					t.Errorf("%q: %q", w+rest, got)
				}
			}
		}
	}
	for _, l := range []string{"what", "ok", "error", "error 1", "0", "book", "edges", "fork", "close", "\xff", "ünd"} {
		if got := s.Do(l); got != "error 110" {
			t.Errorf("%q: %q", l, got)
		}
	}
	if state(s) != before {
		t.Errorf("state %q", state(s))
	}
}

// badNumbers are words that are no numbers: not an integer, written otherwise, or beyond a million.
var badNumbers = []string{
	"x", "-", "+", "+1", "+0", "-0", "00", "01", "-01", "007", "1.0", "1.", ".5", "1e3", "0x1", "0b1", "0o7", "1_0", "--1", "1-", "1,", "\t1", "1\r", "1\x00", "\u0661", "\uff11", "½", "NaN", "Inf",
	"1000001", "-1000001", "9999999", "2147483648", "4294967296", "4294967297", "9223372036854775807", "9223372036854775808", "18446744073709551616", "18446744073709551617", "-9223372036854775808", "-9223372036854775809", strings.Repeat("9", 400), "0" + strings.Repeat("0", 400),
}

// P11.1: a word that is no number is the wrong kind of word, even where the other one would be refused by itself.
func TestBadNumbers(t *testing.T) {
	s := told(t, full...)
	before := state(s)
	for _, w := range badNumbers {
		for _, first := range []string{"quarrel", "peace", "shift", "beat"} {
			for _, other := range []string{"3", "0", "-1", "1000000", "x"} {
				talk{first + " " + w + " " + other, "error 110", first + " " + other + " " + w, "error 110"}.check(t, s)
			}
		}
		talk{"degree " + w, "error 110", "trips " + w, "error 110"}.check(t, s)
	}
	if state(s) != before {
		t.Errorf("state %q", state(s))
	}
}

// P11.1: numbers go up to a million, and down to its negative.
func TestNumbers(t *testing.T) {
	talk{
		"shift -1000000 1000000", "ok", "boats", "boats 1 -1000000", "shift 1000000 1000000", "ok", "boats", "boats 2 1000000", "shift 1000000 -1000000", "error 1",
		"degree 1000000", "ok", "degree -1000000", "ok", "degree 0", "ok", "degree -1", "ok", "graph", "graph 0",
		"quarrel 1000000 0", "error 1", "peace 0 -1000000", "error 1", "beat -1000000 1000000", "error 1", "trips 1000000", "error 1", "trips -1000000", "error 1",
		"shift -1 0", "ok", "shift 0 0", "ok", "shift -10 -9", "ok",
	}.check(t, shop.New())
	s := shop.New()
	for _, n := range []int{0, 1, 7, 9, 10, 99, 100, 101, 65536, 999999, 1000000} {
		for _, l := range []string{"shift " + strconv.Itoa(n) + " " + strconv.Itoa(n), "shift " + strconv.Itoa(-n) + " " + strconv.Itoa(-n)} {
			if got := s.Do(l); got != "ok" && got != "error 8" {
				t.Errorf("%q: %q", l, got)
			}
		}
	}
}
