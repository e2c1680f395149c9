package tangle_test

import (
	"math/rand"
	"strings"
	"testing"

	"forcola/api"
	"forcola/tangle"
)

// checkValue compares Check and Value to the definition.
func checkValue(t *testing.T, word string) {
	t.Helper()
	want, wantError := pair{}, api.ErrTangle
	if len(word) > 2000 {
		wantError = api.ErrLong
	}
	checkError := wantError
	if isWord(word) {
		x, large := valueOf(word)
		want, wantError, checkError = x, api.OK, api.OK
		if large {
			wantError = api.ErrLarge
		}
	}
	if e := tangle.Check(word); e != checkError {
		t.Errorf("Check of %q: %d, not %d", word, e, checkError)
	}
	if p, q, e := tangle.Value(word); (pair{p, q}) != want || e != wantError {
		t.Errorf("Value of %q: %d, %d, %d, not %v, %d", word, p, q, e, want, wantError)
	}
}

// checkUndo compares Undo to what it promises.
func checkUndo(t *testing.T, word string) {
	t.Helper()
	p, q, want := tangle.Value(word)
	if want == api.OK && isGreat(pair{p, q}) {
		want = api.ErrArg
	}
	more, e := tangle.Undo(word)
	if e != want || e != api.OK && more != "" {
		t.Errorf("Undo of %q: %q, %d, not %d", word, more, e, want)
	}
	if e != api.OK {
		return
	}
	if x, large := valueOf(word + more); !isWord(more) || large || x != (pair{0, 1}) {
		t.Errorf("Undo of %q: %q, value %v, large %t", word, more, x, large)
	}
	if len(word+more) > 2000 {
		return
	}
	if p, q, e := tangle.Value(word + more); p != 0 || q != 1 || e != api.OK {
		t.Errorf("Undo of %q: %q, value %d, %d, %d", word, more, p, q, e)
	}
}

// P6.1: the chapter's examples, and other words by hand.
func TestSomeWords(t *testing.T) {
	for _, x := range []struct {
		word string
		p, q int64
	}{
		{"", 0, 1}, {"ttr", -1, 2}, {"ttrt", 1, 2}, {"r", 1, 0}, {"rr", 0, 1}, {"t", 1, 1}, {"T", -1, 1}, {"tr", -1, 1}, {"Tr", 1, 1}, {"rt", 1, 0}, {"rT", 1, 0}, {"rtTTTttr", 0, 1}, {"trt", 0, 1}, {"trtr", 1, 0}, {"trtrtr", 0, 1},
		{"tttr", -1, 3}, {"tttrtttr", -3, 8}, {"TTTrT", -2, 3}, {"ttrtr", -2, 1}, {strings.Repeat("t", 2000), 2000, 1}, {strings.Repeat("T", 1999) + "r", 1, 1999}, {strings.Repeat("r", 1999), 1, 0}, {strings.Repeat("r", 2000), 0, 1},
	} {
		if p, q, e := tangle.Value(x.word); p != x.p || q != x.q || e != api.OK {
			t.Errorf("Value of %q: %d, %d, %d", x.word, p, q, e)
		}
		checkValue(t, x.word)
		checkUndo(t, x.word)
	}
	if more, e := tangle.Undo("t"); more == "" || e != api.OK {
		t.Errorf("Undo of t: %q, %d", more, e)
	}
}

// P6.1: strings that are no words, of which the length comes first.
func TestNoWords(t *testing.T) {
	for _, s := range []string{" ", "R", "tr ", " tr", "t T", "x", "tx", "xt", "tTrs", "0", "t\x00", "\n", "т", "tт", "\xff", "r\xc3", "\u00e9", strings.Repeat("t", 1999) + "x", "x" + strings.Repeat("r", 1999), strings.Repeat("\xff", 2000), strings.Repeat("t", 2000) + "x", strings.Repeat("t", 2001), strings.Repeat("r", 2001), strings.Repeat("x", 2001), strings.Repeat("т", 1001), strings.Repeat("ttrT", 1000), strings.Repeat("tttr", 400) + "x", strings.Repeat("T", 100000)} {
		checkValue(t, s)
		want := api.ErrTangle
		if len(s) > 2000 {
			want = api.ErrLong
		}
		if e := tangle.Check(s); e != want {
			t.Errorf("Check of %q: %d", s, e)
		}
		if more, e := tangle.Undo(s); more != "" || e != want {
			t.Errorf("Undo of %q: %q, %d", s, more, e)
		}
	}
	for b := range 256 {
		for _, s := range []string{string([]byte{byte(b)}), "tr" + string([]byte{byte(b)}) + "T"} {
			checkValue(t, s)
		}
	}
}

// P6.1: numbers on the way are at most 10^15, those above and those below.
func TestLargeValues(t *testing.T) {
	const big = maxOnTheWay
	for _, q := range []int64{618033988749897, 381966011250107, 414213562373093, 707106781186549} {
		for _, top := range []int64{big - 1, big, big + 1} {
			for divisor(top, q) != 1 {
				q++
			}
			up := pathTo(top, q)
			if x, large := valueOf(up); large != (top > big) || !large && x != (pair{top, q}) || len(up) > 1000 {
				t.Fatalf("path to %d, %d: %q, %v, %t", top, q, up, x, large)
			}
			want := api.OK
			if top > big {
				want = api.ErrLarge
			}
			mirrored := strings.NewReplacer("t", "T", "T", "t").Replace(up)
			for _, word := range []string{up, mirrored, up + "r", mirrored + "r", up + "T", up + back(up), up + back(up) + "ttr", "rr" + mirrored + back(mirrored)} {
				checkValue(t, word)
				checkUndo(t, word)
				if _, _, e := tangle.Value(word); e != want {
					t.Errorf("Value of %q: %d, not %d", word, e, want)
				}
			}
		}
	}
	for _, word := range []string{strings.Repeat("tttr", 500), strings.Repeat("TTTr", 500), strings.Repeat("trTr", 500), strings.Repeat("tttr", 250) + strings.Repeat("rTTT", 250)} {
		checkValue(t, word)
		checkUndo(t, word)
		if _, _, e := tangle.Value(word); e != api.ErrLarge {
			t.Errorf("Value of %q: %d", word, e)
		}
	}
}

// P6.1: random words.
func TestManyWords(t *testing.T) {
	r := rand.New(rand.NewSource(1))
	count := map[api.Errno]int{}
	for at := range 6000 {
		length := r.Intn(60)
		if at%4 == 0 {
			length = r.Intn(2001)
		}
		word := someWord(r, length, 1+r.Intn(12))
		if at%3 == 0 {
			word = word[:len(word)/2]
			word += back(word)[:r.Intn(len(word)+1)]
		}
		checkValue(t, word)
		checkUndo(t, word)
		_, e := tangle.Undo(word)
		count[e]++
	}
	if count[api.OK] < 1000 || count[api.ErrArg] < 500 || count[api.ErrLarge] < 200 {
		t.Errorf("too few of some: %v", count)
	}
}

// P6.1: all words of at most nine letters.
func TestShortWords(t *testing.T) {
	words := []string{""}
	for range 9 {
		var longer []string
		for _, word := range words {
			checkValue(t, word)
			checkUndo(t, word)
			longer = append(longer, word+"t", word+"T", word+"r")
		}
		words = longer
	}
}

// P6.1: Undo takes values whose numbers are at most 500.
func TestValuesToUndo(t *testing.T) {
	for n := 495; n <= 505; n++ {
		for _, letter := range []string{"t", "T"} {
			for _, end := range []string{"", "r", "rt", "rT"} {
				word := strings.Repeat(letter, n) + end
				checkUndo(t, word)
				p, q, _ := tangle.Value(word)
				if more, e := tangle.Undo(word); (e == api.OK) != (max(p, -p, q) <= 500) {
					t.Errorf("Undo of %q, value %d, %d: %q, %d", word, p, q, more, e)
				}
			}
		}
	}
	// 2000 letters, of which the last one leads back to 500, or 1 / 500.
	for _, word := range []string{strings.Repeat("t", 1250) + strings.Repeat("T", 750), strings.Repeat("T", 501) + "t" + strings.Repeat("r", 1497) + "r", strings.Repeat("rr", 750) + strings.Repeat("t", 500)} {
		if len(word) > 2000 {
			t.Fatalf("%q is too long", word)
		}
		checkUndo(t, word)
		if more, e := tangle.Undo(word); more == "" || e != api.OK {
			t.Errorf("Undo of %q: %q, %d", word, more, e)
		}
	}
}

// checkWord compares Word to what it promises.
func checkWord(t *testing.T, x pair) {
	t.Helper()
	want := api.OK
	if !isFraction(x) {
		want = api.ErrRatio
	} else if isGreat(x) {
		want = api.ErrArg
	}
	word, e := tangle.Word(x[0], x[1])
	if e != want || e != api.OK && word != "" {
		t.Errorf("Word of %v: %q, %d, not %d", x, word, e, want)
	}
	if e != api.OK {
		return
	}
	if p, q, e := tangle.Value(word); (pair{p, q}) != x || e != api.OK || !isWord(word) {
		t.Errorf("Word of %v: %q, value %d, %d, %d", x, word, p, q, e)
	}
}

// P6.1, P6.6: each fraction whose numbers are at most 500 has a word.
func TestConway(t *testing.T) {
	count := 0
	for x := range fractionsUpTo(500) {
		checkWord(t, x)
		count++
	}
	if count < 300000 {
		t.Errorf("%d fractions are too few", count)
	}
	for _, x := range []pair{{0, 1}, {1, 0}, {1, 1}, {-1, 1}, {500, 1}, {-500, 1}, {1, 500}, {-1, 500}, {499, 500}, {-499, 500}, {500, 499}, {377, 233}} {
		word, e := tangle.Word(x[0], x[1])
		if y, large := valueOf(word); y != x || large || e != api.OK {
			t.Errorf("Word of %v: %q, value %v, %d", x, word, y, e)
		}
	}
}

// P6.1: numbers that are no fraction, and fractions with greater numbers.
func TestNoFractions(t *testing.T) {
	for p := int64(-12); p <= 12; p++ {
		for q := int64(-12); q <= 12; q++ {
			checkWord(t, pair{p, q})
		}
	}
	for _, x := range []struct {
		x    pair
		want api.Errno
	}{
		{pair{0, 0}, api.ErrRatio}, {pair{-1, 0}, api.ErrRatio}, {pair{2, 0}, api.ErrRatio}, {pair{0, 2}, api.ErrRatio}, {pair{0, -1}, api.ErrRatio}, {pair{1, -2}, api.ErrRatio}, {pair{2, 4}, api.ErrRatio}, {pair{-3, 9}, api.ErrRatio}, {pair{502, 2}, api.ErrRatio}, {pair{501, 0}, api.ErrRatio}, {pair{0, 501}, api.ErrRatio}, {pair{501, -1}, api.ErrRatio}, {pair{1000, 1000}, api.ErrRatio},
		{pair{501, 1}, api.ErrArg}, {pair{-501, 1}, api.ErrArg}, {pair{1, 501}, api.ErrArg}, {pair{-1, 501}, api.ErrArg}, {pair{501, 502}, api.ErrArg}, {pair{500, 501}, api.ErrArg}, {pair{501, 500}, api.ErrArg},
	} {
		checkWord(t, x.x)
		if word, e := tangle.Word(x.x[0], x.x[1]); word != "" || e != x.want {
			t.Errorf("Word of %v: %q, %d", x.x, word, e)
		}
	}
	numbers := append([]int64{-2, -1, 0, 1, 2, 3, 499, 500, 501, -501}, extremes...)
	for _, p := range numbers {
		for _, q := range numbers {
			checkWord(t, pair{p, q})
		}
	}
}

// P6.6: letters that take each other back.
func TestWordsThatChangeNothing(t *testing.T) {
	r := rand.New(rand.NewSource(2))
	for range 2000 {
		word := someWord(r, r.Intn(25), 1+r.Intn(5))
		p, q, e := tangle.Value(word)
		for _, more := range []string{"tT", "Tt", "rr", "trtrtr"} {
			if p2, q2, e2 := tangle.Value(word + more); p2 != p || q2 != q || e2 != e || e != api.OK {
				t.Errorf("Value of %q: %d, %d, %d, and with %s %d, %d, %d", word, p, q, e, more, p2, q2, e2)
			}
		}
	}
}
