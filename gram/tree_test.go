package gram_test

import (
	"fmt"
	"math/rand"
	"slices"
	"testing"

	"forcola/api"
	"forcola/gram"
)

// nodes is the number of nodes of x.
func nodes(x gram.Tree) int {
	n := 1
	for _, p := range x.Parts {
		n += nodes(p)
	}
	return n
}

// leaf is a tree without parts.
func leaf(rule int) gram.Tree { return gram.Tree{Rule: rule} }

// with is a tree with parts.
func with(rule int, parts ...gram.Tree) gram.Tree { return gram.Tree{Rule: rule, Parts: parts} }

// nulls are rules by which X has the empty word with a tree of 1885 nodes, and no smaller one.
func nulls() []string {
	return []string{"X=" + repeat("A", 12), "A=" + repeat("B", 12), "B=" + repeat("C", 12), "C="}
}

// huge are rules by which A has the empty word with a tree of more nodes than int64 can count, and no smaller one.
func huge() []string {
	var g []string
	for n := 'A'; n < 'Z'; n++ {
		g = append(g, string(n)+"="+repeat(string(n+1), 12))
	}
	return append(g, "Z=")
}

// P3.3: what is not a word.
func TestNoWord(t *testing.T) {
	g := []string{"S=aS", "S="}
	for _, w := range []string{"A", "S", "aS", " ", "a ", "a\n", "1", "$", "`", "{", "\u00e4", "\xff", "\x00", repeat("a", 25), repeat("a", 1<<20), repeat("A", 25)} {
		if ok, e := gram.Has(g, w); ok || e != api.ErrArg {
			t.Errorf("Has of %.30q: %t, %d", w, ok, e)
		}
		if n, e := gram.Count(g, w); n != 0 || e != api.ErrArg {
			t.Errorf("Count of %.30q: %d, %d", w, n, e)
		}
		if x, ok, e := gram.Parse(g, w); nodes(x) != 1 || x.Rule != 0 || ok || e != api.ErrArg {
			t.Errorf("Parse of %.30q: %v, %t, %d", w, x, ok, e)
		}
	}
	for _, w := range []string{"", "a", repeat("a", 24)} {
		ok, e := gram.Has(g, w)
		n, f := gram.Count(g, w)
		if !ok || n != 1 || e != api.OK || f != api.OK {
			t.Errorf("%q: %t, %d, %d, %d", w, ok, n, e, f)
		}
	}
}

// P3.3: numbers of trees.
func TestCount(t *testing.T) {
	for _, x := range []struct {
		g    []string
		w    string
		want int64
		e    api.Errno
	}{
		{[]string{"E=EpE", "E=a"}, "apapa", 2, api.OK}, {[]string{"E=EpE", "E=a"}, "apapapa", 5, api.OK}, {[]string{"E=EpE", "E=a"}, "a", 1, api.OK}, {[]string{"E=EpE", "E=a"}, "ap", 0, api.OK}, {[]string{"E=EpE", "E=a"}, "", 0, api.OK}, {[]string{"E=EpE", "E=a"}, "q", 0, api.OK},
		{[]string{"S=aSb", "S="}, "", 1, api.OK}, {[]string{"S=aSb", "S="}, "aabb", 1, api.OK}, {[]string{"S=aSb", "S="}, "abab", 0, api.OK},
		{[]string{"S=SS", "S=a"}, repeat("a", 24), 343059613650, api.OK}, // a number of Catalan
		{[]string{"S=S", "S=a"}, "a", 0, api.ErrEndless}, {[]string{"S=S", "S=a"}, "b", 0, api.OK}, {[]string{"S=S"}, "", 0, api.OK}, {[]string{"S=S"}, "a", 0, api.OK},
		{[]string{"S=SS", "S="}, "", 0, api.ErrEndless}, {[]string{"S=SS", "S="}, "a", 0, api.OK}, {[]string{"S=SS", "S=", "S=a"}, "a", 0, api.ErrEndless},
		{[]string{"S=aA", "A=B", "B=A", "B=b"}, "ab", 0, api.ErrEndless}, {[]string{"S=aA", "A=B", "B=A", "B=b"}, "a", 0, api.OK},
		{[]string{"S=a", "S=A", "A=A", "A=b"}, "a", 1, api.OK},    // the endless part is not that of the word
		{[]string{"S=aAb", "S=ab", "A=A"}, "ab", 1, api.OK},       // nor has it a tree
		{[]string{"S=aAb", "A=A", "A="}, "ab", 0, api.ErrEndless}, // an empty one
		{[]string{"S=aAX", "S=a", "A=A", "A="}, "a", 1, api.OK},   // beside one that has no tree
		{[]string{"S=a", "A=A", "A=a"}, "a", 1, api.OK},           // that is not reached
		{[]string{"S=aSA", "S=b", "A="}, "aab", 1, api.OK},        // a part of the same letters, but not within itself
		{[]string{"S=ASA", "S=b", "A=", "A=a"}, "b", 0, api.ErrEndless},
		{[]string{"S=AAAAAAAAAAAA", "A=", "A=a"}, "a", 12, api.OK}, {[]string{"S=AAAAAAAAAAAA", "A=", "A=a"}, "aaaaaa", 924, api.OK}, {[]string{"S=AAAAAAAAAAAA", "A=", "A=a"}, repeat("a", 12), 1, api.OK}, {[]string{"S=AAAAAAAAAAAA", "A=", "A=a"}, repeat("a", 13), 0, api.OK},
		{[]string{"S=A", "S=B", "A=a", "B=a", "B=C", "C=a"}, "a", 3, api.OK},
		{huge(), "", 1, api.OK}, {append(huge(), "Z=A"), "", 0, api.ErrEndless},
	} {
		if n, e := gram.Count(x.g, x.w); n != x.want || e != x.e {
			t.Errorf("Count of %q for %q: %d, %d, not %d, %d", x.w, x.g, n, e, x.want, x.e)
		}
	}
}

// P3.3: 10^15 trees, and one more.
func TestCountLimit(t *testing.T) {
	// Ten trees for each of 15 letters, and one more by another rule.
	ten := []string{"S=TTTTTTTTTU", "U=TTTTTT", "T=A", "T=B", "A=C", "A=D", "A=E", "A=F", "A=a", "B=C", "B=D", "B=E", "B=F", "B=a", "C=a", "D=a", "E=a", "F=a"}
	if n, e := gram.Count(ten, repeat("a", 15)); n != 1_000_000_000_000_000 || e != api.OK {
		t.Errorf("Count: %d, %d", n, e)
	}
	if n, e := gram.Count(append(ten, "S=aaaaaaaaaG", "G=aaaaaa"), repeat("a", 15)); n != 0 || e != api.ErrLong {
		t.Errorf("Count: %d, %d", n, e)
	}
	for _, x := range []struct {
		g []string
		n int
		e api.Errno
	}{
		{append([]string{"S=" + repeat("T", 12)}, ten[2:]...), 12, api.OK}, {append([]string{"S=TTTTTTTTTTTV", "V=TTTTTTTTTTTT"}, ten[2:]...), 23, api.ErrLong},
		{[]string{"S=SSS", "S=SS", "S=T", "S=U", "T=a", "U=a"}, 24, api.ErrLong}, {[]string{"S=SSS", "S=SS", "S=T", "S=U", "T=a", "U=a", "S=S"}, 24, api.ErrEndless}, // endless comes first
	} {
		if _, e := gram.Count(x.g, repeat("a", x.n)); e != x.e {
			t.Errorf("Count of %d letters for %q: %d, not %d", x.n, x.g, e, x.e)
		}
	}
}

// P3.3: trees.
func TestParse(t *testing.T) {
	for _, x := range []struct {
		g    []string
		w    string
		want string // where there is just one tree
	}{
		{[]string{"S=aSb", "S="}, "aabb", "{0 [{0 [{1 []}]}]}"}, {[]string{"S=aSb", "S="}, "", "{1 []}"}, {[]string{"S=aSb", "S="}, "aab", ""}, {[]string{"S=AB", "B=b", "A=Bb", "A=a"}, "bbb", "{0 [{2 [{1 []}]} {1 []}]}"}, {[]string{"S=S"}, "", ""}, {[]string{"S=S", "S=a"}, "b", ""},
	} {
		tree, ok, e := gram.Parse(x.g, x.w)
		if e != api.OK || ok != (x.want != "") || ok && fmt.Sprint(tree) != x.want || !ok && fmt.Sprint(tree) != "{0 []}" {
			t.Errorf("Parse of %q for %q: %v, %t, %d", x.w, x.g, tree, ok, e)
		}
	}
	for _, g := range [][]string{{"E=EpE", "E=a"}, {"E=E", "E=EpE", "E=F", "F=E", "F=a"}, {"E=EpE", "E=EQpE", "E=a", "Q=QQ", "Q="}} {
		x, ok, e := gram.Parse(g, "apapapapapapapapapapapa")
		if w, f := gram.Word(g, x); w != "apapapapapapapapapapapa" || !ok || e != api.OK || f != api.OK {
			t.Errorf("Parse for %q: %v, %t, %d; %q, %d", g, x, ok, e, w, f)
		}
	}
}

// P3.3: trees of 2000 nodes, and of one more, where there are no smaller ones.
func TestParseLimit(t *testing.T) {
	for _, x := range []struct {
		rules []string
		word  string
		want  int // nodes, 0 for too many
	}{
		{[]string{"S=X"}, "", 1886},
		{[]string{"S=XY", "Y=EEEEEEEEGGG", "E=" + repeat("C", 12), "G=CC"}, "", 2000},
		{[]string{"S=XY", "Y=EEEEEEEEGGGC", "E=" + repeat("C", 12), "G=CC"}, "", 0},
		{[]string{"S=aaXYdbb", "Y=cEEEEEEEEGGG", "E=" + repeat("C", 12), "G=CC"}, "aacdbb", 2000}, // letters are no nodes
		{[]string{"S=aaXcYbb", "Y=EEEEEEEEGGGC", "E=" + repeat("C", 12), "G=CC"}, "aacbb", 0},
		{[]string{"S=XX"}, "", 0},
		{[]string{"S=XX", "S=X"}, "", 1886}, {[]string{"S=XX", "S=X", "S=C", "S=S"}, "", 2},
	} {
		g := append(x.rules, nulls()...)
		tree, ok, e := gram.Parse(g, x.word)
		if x.want == 0 {
			if ok || nodes(tree) != 1 || tree.Rule != 0 || e != api.ErrLong {
				t.Errorf("Parse for %q: %t, %d nodes, %d", x.rules, ok, nodes(tree), e)
			}
			continue
		}
		w, f := gram.Word(g, tree)
		if !ok || nodes(tree) > 2000 || nodes(tree) < x.want || w != x.word || e != api.OK || f != api.OK {
			t.Errorf("Parse for %q: %t, %d nodes, %d, %d", x.rules, ok, nodes(tree), e, f)
		}
	}
	if x, ok, e := gram.Parse(huge(), ""); ok || len(x.Parts) != 0 || e != api.ErrLong {
		t.Errorf("Parse: %t, %d", ok, e)
	}
	if x, ok, e := gram.Parse(huge(), "a"); ok || len(x.Parts) != 0 || e != api.OK {
		t.Errorf("Parse: %t, %d", ok, e)
	}
	if ok, e := gram.Has(huge(), ""); !ok || e != api.OK {
		t.Errorf("Has: %t, %d", ok, e)
	}
}

// P3.3: words of trees, and what is not a tree.
func TestWord(t *testing.T) {
	g := []string{"S=aSb", "S=", "S=TcT", "T=S", "T=t"}
	for _, x := range []struct {
		tree gram.Tree
		want string
	}{
		{leaf(1), ""}, {with(0, leaf(1)), "ab"}, {with(2, leaf(4), with(3, with(0, leaf(1)))), "tcab"}, {gram.Tree{Rule: 1, Parts: []gram.Tree{}}, ""}, {with(0, with(2, leaf(4), leaf(4))), "atctb"},
	} {
		if w, e := gram.Word(g, x.tree); w != x.want || e != api.OK {
			t.Errorf("Word of %v: %q, %d", x.tree, w, e)
		}
	}
	round := gram.Tree{Rule: 0, Parts: make([]gram.Tree, 1)}
	round.Parts[0] = round
	wide := []gram.Tree{leaf(4), leaf(4)}
	for range 100 {
		wide = []gram.Tree{with(3, with(2, wide...)), with(3, with(2, wide...))}
	}
	for _, tree := range []gram.Tree{
		leaf(-1), leaf(5), leaf(1 << 62), leaf(-1 << 63), leaf(0), leaf(2), leaf(3), leaf(4), with(1, leaf(1)), with(0, leaf(4)), with(0, leaf(5)), with(0, leaf(1), leaf(1)), with(2, leaf(4)), with(2, leaf(4), leaf(1)), with(2, leaf(1), leaf(4)), with(2, leaf(4), leaf(4), leaf(4)), with(2, leaf(4), with(3, leaf(4))), with(4, leaf(1)), with(0, with(0, with(0, with(0)))), with(0, with(0, leaf(-1))), round, with(2, wide...),
	} {
		if w, e := gram.Word(g, tree); w != "" || e != api.ErrArg {
			t.Errorf("Word of rule %d, %d parts: %q, %d", tree.Rule, len(tree.Parts), w, e)
		}
	}
}

// P3.3: trees of 2000 nodes and words of 2000 letters, and one more.
func TestWordLimits(t *testing.T) {
	g := []string{"S=aS", "S=", "S=" + repeat("a", 11) + "S", "S=" + repeat("b", 9), "S=" + repeat("b", 10), "S=SS"}
	chain := func(rule, n, last int) gram.Tree {
		x := leaf(last)
		for range n {
			x = with(rule, x)
		}
		return x
	}
	for _, x := range []struct {
		tree gram.Tree
		want string
		e    api.Errno
	}{
		{chain(0, 1999, 1), repeat("a", 1999), api.OK}, {chain(0, 2000, 1), "", api.ErrArg}, {chain(0, 1<<16, 1), "", api.ErrArg},
		{chain(2, 181, 3), repeat("a", 1991) + repeat("b", 9), api.OK}, {chain(2, 181, 4), "", api.ErrArg}, {chain(2, 182, 1), "", api.ErrArg},
		{with(5, chain(2, 181, 3), chain(5, 0, 1)), repeat("a", 1991) + repeat("b", 9), api.OK}, {with(5, chain(2, 181, 3), chain(0, 1, 1)), "", api.ErrArg},
		{with(5, chain(0, 1000, 1), chain(0, 997, 1)), repeat("a", 1997), api.OK}, {with(5, chain(0, 1000, 1), chain(0, 998, 1)), "", api.ErrArg},
	} {
		if w, e := gram.Word(g, x.tree); w != x.want || e != x.e {
			t.Errorf("Word of %d nodes: %d letters, %d", nodes(x.tree), len(w), e)
		}
	}
}

// P3.3: random grammars; all words of a few letters.
func TestTreesOfRandomGrammars(t *testing.T) {
	r := rand.New(rand.NewSource(4))
	endless, several := 0, 0
	for range 400 {
		g := randomGrammar(r, "SAB", "ab", 3+r.Intn(4), 3)
		in := wordsOf(g, 4)
		for _, w := range wordsOf([]string{"S=aS", "S=bS", "S="}, 4) {
			is := slices.Contains(in, w)
			if ok, e := gram.Has(g, w); ok != is || e != api.OK {
				t.Errorf("Has of %q for %q: %t, %d", w, g, ok, e)
			}
			x, ok, e := gram.Parse(g, w)
			if ok != is || e != api.OK {
				t.Errorf("Parse of %q for %q: %v, %t, %d", w, g, x, ok, e)
			}
			if v, f := gram.Word(g, x); ok && (v != w || f != api.OK) {
				t.Errorf("Word of %v for %q: %q, %d", x, g, v, f)
			}
			want, finite := treesOf(g, w)
			n, e := gram.Count(g, w)
			if !finite {
				endless++
				if n != 0 || e != api.ErrEndless {
					t.Errorf("Count of %q for %q: %d, %d", w, g, n, e)
				}
			} else if n%modulus != want || e != api.OK {
				t.Errorf("Count of %q for %q: %d, not %d, %d", w, g, n, want, e)
			}
			if n > 1 {
				several++
			}
		}
	}
	if endless < 50 || several < 50 {
		t.Errorf("only %d words with endlessly many trees, %d with several", endless, several)
	}
}

// P3.7: Clean keeps the language and the numbers of trees.
func TestCleanKeeps(t *testing.T) {
	r := rand.New(rand.NewSource(5))
	for range 300 {
		g := randomGrammar(r, "SABC", "ab", 4+r.Intn(5), 3)
		l, e := gram.Clean(g)
		for _, w := range wordsOf([]string{"S=aS", "S=bS", "S="}, 4) {
			before, f := gram.Count(g, w)
			if e == api.ErrNone {
				if before != 0 || f != api.OK {
					t.Errorf("Count of %q for %q: %d, %d", w, g, before, f)
				}
				continue
			}
			after, h := gram.Count(l, w)
			if after != before || f != h {
				t.Errorf("Count of %q for %q: %d, %d; clean: %d, %d", w, g, before, f, after, h)
			}
		}
	}
}
