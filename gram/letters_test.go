package gram_test

import (
	"math/rand"
	"slices"
	"testing"

	"forcola/api"
	"forcola/gram"
)

// row is a list of strings for A to Z, from pairs like `S`, `ab`.
func row(pairs ...string) []string {
	l := make([]string, 26)
	for i := 0; i < len(pairs); i += 2 {
		l[pairs[i][0]-'A'] = pairs[i+1]
	}
	return l
}

// P3.2: first and following letters.
func TestLetters(t *testing.T) {
	for _, x := range []struct {
		g               []string
		firsts, follows []string
	}{
		{[]string{"S=aSb", "S="}, row("S", "a"), row("S", "$b")},
		{[]string{"E=EpE", "E=a"}, row("E", "a"), row("E", "$p")},
		{[]string{"S=S"}, row(), row("S", "$")},
		{[]string{"S=a"}, row("S", "a"), row("S", "$")},
		{[]string{"S=ABc", "A=a", "A=", "B=b", "B="}, row("S", "abc", "A", "a", "B", "b"), row("S", "$", "A", "bc", "B", "c")},
		{[]string{"S=AB", "A=a", "A=", "B=b", "B="}, row("S", "ab", "A", "a", "B", "b"), row("S", "$", "A", "$b", "B", "$")},
		{[]string{"Z=zYA", "Y=yZ", "A=a"}, row("Z", "z", "Y", "y", "A", "a"), row("Z", "$a", "Y", "a", "A", "$a")},
		// rules that Clean leaves out count: X has no tree
		{[]string{"S=Xa", "S=AX", "X=bX", "A=Xc", "A="}, row("S", "b", "X", "b", "A", "b"), row("S", "$", "X", "$ac", "A", "b")},
		// nothing that can be made from S contains Y
		{[]string{"S=a", "Y=XbY", "X=c"}, row("S", "a", "Y", "c", "X", "c"), row("S", "$")},
		{[]string{"S=aX", "Y=XbY", "X=c"}, row("S", "a", "Y", "c", "X", "c"), row("S", "$", "X", "$")},
		// what has no rule
		{[]string{"S=QaR"}, row(), row("S", "$", "Q", "a", "R", "$")},
		{[]string{"S=SSz", "S=AS", "A=", "S=m", "S=a"}, row("S", "am"), row("S", "$amz", "A", "am")},
	} {
		if l, e := gram.Firsts(x.g); !slices.Equal(l, x.firsts) || e != api.OK {
			t.Errorf("Firsts of %q: %q, %d", x.g, l, e)
		}
		if l, e := gram.Follows(x.g); !slices.Equal(l, x.follows) || e != api.OK {
			t.Errorf("Follows of %q: %q, %d", x.g, l, e)
		}
	}
}

// P3.2: the first conflict.
func TestConflict(t *testing.T) {
	for _, x := range []struct {
		g       []string
		letters string
		rules   [2]int
	}{
		{[]string{"S=aSb", "S="}, "", [2]int{}}, {[]string{"S=a"}, "", [2]int{}}, {[]string{"S=a", "S=b", "A=a"}, "", [2]int{}}, {[]string{"S=aA", "A=Sb", "A="}, "", [2]int{}}, {[]string{"S=S"}, "", [2]int{}},
		{[]string{"E=EpE", "E=a"}, "Ea", [2]int{0, 1}}, {[]string{"S=S", "S=a"}, "Sa", [2]int{0, 1}}, {[]string{"S=", "S=A", "A="}, "S$", [2]int{0, 1}},
		{[]string{"S=Sa", "S="}, "Sa", [2]int{0, 1}},                                    // by what follows
		{[]string{"S=b", "S=a", "S=ba", "S=ab", "S=bb"}, "Sa", [2]int{1, 3}},            // the first letter
		{[]string{"S=b", "S=a", "S=ba", "S=c", "S=bb"}, "Sb", [2]int{0, 2}},             // the first pair
		{[]string{"S=b", "S=ba", "B=a", "B=aa", "C=a", "C=ac"}, "Ba", [2]int{2, 3}},     // the first nonterminal, though nothing reaches it
		{[]string{"S=aA", "S=A", "A=a", "A="}, "Sa", [2]int{0, 1}},                      //
		{[]string{"S=Aa", "A=B", "A=C", "B=", "C="}, "Aa", [2]int{1, 2}},                // both empty, before a
		{[]string{"S=A", "A=B", "A=C", "B=", "C=", "S=zAb"}, "A$", [2]int{1, 2}},        // `$` before b
		{[]string{"S=aX", "S=aY", "X=X", "Y=Y"}, "Sa", [2]int{0, 1}},                    // rules without trees count
		{[]string{"S=ABCa", "A=", "B=", "C=", "C=a", "B=b", "A=c"}, "Ca", [2]int{3, 4}}, //
		{[]string{"S=a", "Y=", "Y=Z", "Z=", "Z=b"}, "", [2]int{}},                       // nothing follows what is not reached
		{[]string{"S=AAAAAAAAAAAA", "A=", "A=z"}, "Az", [2]int{1, 2}},                   //
		{[]string{"S=a", "S=b", "S=c", "S=d", "S=e", "S=Q", "Q=e"}, "Se", [2]int{4, 5}}, //
		{[]string{"Z=z", "Z=za"}, "Zz", [2]int{0, 1}}, {[]string{"S=a", "Z=z", "A=a", "Z=za"}, "Zz", [2]int{1, 3}},
		{[]string{"Z=Y", "Y=a", "Z=X", "X=z", "X=y", "X=zz"}, "Xz", [2]int{3, 5}},        //
		{[]string{"S=A", "S=B", "S=C", "A=z", "B=z", "C=z", "C=zz"}, "Cz", [2]int{5, 6}}, //
		{[]string{"S=A", "S=B", "S=C", "A=z", "B=a", "C=z", "C=b"}, "Sz", [2]int{0, 2}},  //
	} {
		letters, rules, ok, e := gram.Conflict(x.g)
		if letters != x.letters || rules != x.rules || ok != (x.letters != "") || e != api.OK {
			t.Errorf("Conflict of %q: %q, %v, %t, %d", x.g, letters, rules, ok, e)
		}
	}
}

// P3.2: random grammars, by all strings that can be made.
func TestLettersOfRandomGrammars(t *testing.T) {
	const most = 7
	r := rand.New(rand.NewSource(2))
	for range 60 {
		g := randomGrammar(r, "SAB", "ab", 3+r.Intn(4), 2)
		wantFirsts, wantFollows := make([]string, 26), make([]string, 26)
		for _, n := range []byte("ABS") {
			wantFirsts[n-'A'], wantFollows[n-'A'] = firsts(g, n, most), follows(g, n, most)
		}
		if l, e := gram.Firsts(g); !slices.Equal(l, wantFirsts) || e != api.OK {
			t.Errorf("Firsts of %q: %q, not %q", g, l, wantFirsts)
		}
		if l, e := gram.Follows(g); !slices.Equal(l, wantFollows) || e != api.OK {
			t.Errorf("Follows of %q: %q, not %q", g, l, wantFollows)
		}
		letters, rules, ok := conflict(g, most)
		gotLetters, gotRules, gotOk, e := gram.Conflict(g)
		if gotLetters != letters || gotRules != rules || gotOk != ok || e != api.OK {
			t.Errorf("Conflict of %q: %q, %v, %t, not %q, %v, %t", g, gotLetters, gotRules, gotOk, letters, rules, ok)
		}
	}
}

// conflict is the least of all conflicts.
func conflict(g []string, most int) (letters string, rules [2]int, ok bool) {
	for i, first := range g {
		for j := i + 1; j < len(g); j++ {
			if g[j][0] != first[0] {
				continue
			}
			others := choices(g, g[j], most)
			for _, c := range []byte(choices(g, first, most)) {
				s := string([]byte{first[0], c})
				if slices.Contains([]byte(others), c) && (!ok || s < letters) {
					letters, rules, ok = s, [2]int{i, j}, true
				}
			}
		}
	}
	return letters, rules, ok
}

// P3.7: without a conflict there is one tree at most.
func TestNoConflictNoSecondTree(t *testing.T) {
	r := rand.New(rand.NewSource(3))
	without := 0
	for range 3000 {
		g := randomGrammar(r, "SAB", "abc", 3+r.Intn(4), 3)
		_, _, ok, e := gram.Conflict(g)
		if ok || e != api.OK {
			continue
		}
		words, e := gram.Words(g, 7)
		if len(words) > 1 {
			without++
		}
		w, more, f := gram.Ambiguous(g, 7)
		if more || e != f {
			t.Errorf("%q has no conflict, but %q has several trees, %d, %d", g, w, e, f)
		}
	}
	if without < 50 {
		t.Errorf("only %d grammars without a conflict", without)
	}
}
