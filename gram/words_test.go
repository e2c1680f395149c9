package gram_test

import (
	"math"
	"math/rand"
	"slices"
	"testing"

	"forcola/api"
	"forcola/gram"
)

// P3.4: all words, in order.
func TestWords(t *testing.T) {
	for _, x := range []struct {
		g    []string
		most int
		want []string
	}{
		{[]string{"S=aSb", "S="}, 4, []string{"", "ab", "aabb"}}, {[]string{"S=aSb", "S="}, 5, []string{"", "ab", "aabb"}}, {[]string{"S=aSb", "S="}, 0, []string{""}}, {[]string{"S=aSb", "S="}, 10, []string{"", "ab", "aabb", "aaabbb", "aaaabbbb", "aaaaabbbbb"}}, {[]string{"S=aSb", "S=ab"}, 1, nil}, {[]string{"S=aSb", "S=ab"}, 0, nil},
		{[]string{"S=b", "S=aS", "S=c", "S="}, 2, []string{"", "a", "b", "c", "aa", "ab", "ac"}},
		{[]string{"S=S"}, 10, nil}, {[]string{"S=A", "A=B"}, 10, nil}, {[]string{"S=aS"}, 10, nil}, {[]string{"S=A", "S=b", "A=aA"}, 10, []string{"b"}},
		{[]string{"S=abcdefghij", "S=abcdefghijk"}, 10, []string{"abcdefghij"}}, {[]string{"S=abcdefghij", "S=abcdefghijk"}, 9, nil},
		{[]string{"S=SS", "S=", "S=a"}, 3, []string{"", "a", "aa", "aaa"}},
		{huge(), 10, []string{""}}, {append(huge(), "A=a"), 10, []string{"", "a"}},
	} {
		if l, e := gram.Words(x.g, x.most); !slices.Equal(l, x.want) || e != api.OK {
			t.Errorf("Words of %q within %d: %q, %d", x.g, x.most, l, e)
		}
	}
}

// P3.4: the first word with more than one tree.
func TestAmbiguous(t *testing.T) {
	for _, x := range []struct {
		g    []string
		most int
		want string
		ok   bool
	}{
		{[]string{"E=EpE", "E=a"}, 5, "apapa", true}, {[]string{"E=EpE", "E=a"}, 4, "", false}, {[]string{"E=EpE", "E=a"}, 10, "apapa", true}, {[]string{"S=aSb", "S="}, 10, "", false}, {[]string{"S=S"}, 10, "", false}, {[]string{"S=aS"}, 10, "", false},
		{[]string{"S=S", "S=a"}, 1, "a", true}, {[]string{"S=S", "S="}, 0, "", true}, {[]string{"S=SS", "S="}, 0, "", true}, {[]string{"S=SS", "S=ab"}, 10, "ababab", true}, {[]string{"S=A", "S=B", "A=", "B="}, 0, "", true},
		{[]string{"S=A", "A=S", "A=b", "S=a"}, 1, "a", true}, {[]string{"S=b", "S=B", "S=aa", "S=A", "A=aa", "B=b"}, 2, "b", true}, {[]string{"S=c", "S=bC", "S=Bc", "B=b", "C=c", "S=ab", "S=aB"}, 2, "ab", true},
		{[]string{"S=a", "A=a", "A=B", "B=a"}, 5, "", false}, {[]string{"S=a", "S=A", "A=A"}, 5, "", false},
		{[]string{"S=AAAAAAAAAAAA", "A=", "A=a"}, 10, "a", true}, {huge(), 10, "", false}, {append(huge(), "Z=a"), 10, "a", true},
	} {
		if w, ok, e := gram.Ambiguous(x.g, x.most); w != x.want || ok != x.ok || e != api.OK {
			t.Errorf("Ambiguous of %q within %d: %q, %t, %d", x.g, x.most, w, ok, e)
		}
	}
}

// thousand is a grammar of 1000 words of three letters: ten by ten by ten.
func thousand() []string {
	g := []string{"S=TTT"}
	for c := 'a'; c <= 'j'; c++ {
		g = append(g, "T="+string(c))
	}
	return g
}

// P3.4: numbers out of their range, and more than 1000 words.
func TestWordsLimits(t *testing.T) {
	both := func(g []string, most, count int, want api.Errno) {
		t.Helper()
		l, e := gram.Words(g, most)
		w, _, f := gram.Ambiguous(g, most)
		if len(l) != count || e != want || f != want || f != api.OK && w != "" {
			t.Errorf("%d words of %q within %d, %d; %q, %d", len(l), g, most, e, w, f)
		}
	}
	for _, most := range []int{-1, 11, 12, math.MaxInt, math.MinInt} {
		both([]string{"S=a"}, most, 0, api.ErrArg)
		both([]string{"S=S"}, most, 0, api.ErrArg)
	}
	both(thousand(), 10, 1000, api.OK)
	both(thousand(), 3, 1000, api.OK)
	both(thousand(), 2, 0, api.OK)
	both(append(thousand(), "S="), 2, 1, api.OK)
	both(append(thousand(), "S="), 3, 0, api.ErrLong)
	both(append(thousand(), "S=k"), 3, 0, api.ErrLong)
	both(append(thousand(), "S=abcd"), 3, 1000, api.OK)
	both(append(thousand(), "S=abcd"), 4, 0, api.ErrLong)
	both(append(thousand(), "S=abc", "S=Tbc"), 4, 1000, api.OK) // known words
	both(append(thousand(), "S=S"), 4, 1000, api.OK)
	both(append(thousand(), "S=SQ"), 4, 1000, api.OK)
	both(append(thousand(), "Q=kTTT", "Q=lTTT"), 4, 1000, api.OK)                           // words that nothing reaches
	both(append(thousand(), "S=AX", "A=kTTT", "A=lTTT", "X=X"), 4, 1000, api.OK)            // or that are in no tree
	both([]string{"S=aS", "S=bS", "S="}, 8, 511, api.OK)                                    //
	both([]string{"S=aS", "S=bS", "S="}, 9, 0, api.ErrLong)                                 //
	both([]string{"S=aaaaaaaT", "T=aT", "T=bT", "T=cT", "T="}, 10, 40, api.OK)              // T has 88573 words of 10 letters
	both([]string{"S=zzzTzzzUz", "U=TT", "T=aT", "T=bT", "T=cT", "T="}, 10, 142, api.OK)    //
	both([]string{"S=zzzVzzzzV", "V=VV", "V=a", "V=b", "V=c", "V=d"}, 10, 16+64+64, api.OK) //
	both([]string{"S=TTTTTTTTTTTT", "T=a", "T=b", "T=c", "T="}, 5, 364, api.OK)             //
	both([]string{"S=TTTTTTTTTTTT", "T=a", "T=b", "T=c", "T="}, 6, 0, api.ErrLong)          // 1093
	both([]string{"S=TTTTTTTTTTTT", "T=a", "T=b", "T=c", "T=" + repeat("T", 12)}, 10, 0, api.OK)
}

// P3.4: the first of just 1000 words may have more than one tree, too.
func TestAmbiguousOfManyWords(t *testing.T) {
	for _, word := range []string{"aaa", "bcd", "jjj"} {
		if w, ok, e := gram.Ambiguous(append(thousand(), "S="+word), 3); w != word || !ok || e != api.OK {
			t.Errorf("Ambiguous: %q, %t, %d, not %q", w, ok, e, word)
		}
	}
}

// P3.4: random grammars, by whatever the rules make.
func TestWordsOfRandomGrammars(t *testing.T) {
	const most = 6
	r := rand.New(rand.NewSource(6))
	several, long := 0, 0
	for i := range 500 {
		g := randomGrammar(r, "SAB", "abcd", 3+r.Intn(6), 3)
		if i%10 == 0 { // many words, but not of all letters: that is slow here
			g = append([]string{"S=xS", "S=yS", "S=zS", "S=A", "S=B"}, randomGrammar(r, "AB", "wx", 4, 2)...)
		}
		want := wordsOf(g, most)
		l, e := gram.Words(g, most)
		first, ok, f := gram.Ambiguous(g, most)
		if len(want) > 1000 {
			long++
			if len(l) != 0 || first != "" || ok || e != api.ErrLong || f != api.ErrLong {
				t.Errorf("%q has %d words: %q, %d; %q, %t, %d", g, len(want), l, e, first, ok, f)
			}
			continue
		}
		if !slices.Equal(l, want) || e != api.OK || f != api.OK {
			t.Errorf("Words of %q: %q, not %q, %d, %d", g, l, want, e, f)
		}
		at := slices.IndexFunc(want, func(w string) bool {
			n, e := gram.Count(g, w)
			return n != 1 || e != api.OK
		})
		if at >= 0 {
			several++
		}
		if ok != (at >= 0) || ok && first != want[at] || !ok && first != "" {
			t.Errorf("Ambiguous of %q: %q, %t, not number %d of %q", g, first, ok, at, want)
		}
	}
	if several < 50 || long < 20 {
		t.Errorf("only %d ambiguous grammars, and %d with many words", several, long)
	}
}
