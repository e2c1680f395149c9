package gram_test

import (
	"math/rand"
	"slices"
	"strings"
	"testing"

	"forcola/api"
	"forcola/gram"
)

// isLoop reports whether x is a loop of at most 24 letters. A letter that is new stands for the nonterminal: it is in a word just if that could be there.
func isLoop(g []string, x [5]string) bool {
	if len(strings.Join(x[:], "")) > 24 || x[1]+x[3] == "" {
		return false
	}
	for n := byte('A'); n <= 'Z'; n++ {
		marked := append(slices.Clone(g), string(n)+"=q")
		if isMade(marked, g[0][0], x[0]+"q"+x[4]) && isMade(marked, n, x[1]+"q"+x[3]) && isMade(g, n, x[2]) {
			return true
		}
	}
	return false
}

// P3.5: finite and infinite languages, and pumps.
func TestPump(t *testing.T) {
	for _, x := range []struct {
		g    []string
		ok   bool
		size int // of the shortest loop, 0 for none of at most 24 letters
	}{
		{[]string{"S=aSb", "S="}, true, 2}, {[]string{"S=aS", "S="}, true, 1}, {[]string{"S=Sa", "S=b"}, true, 2}, {[]string{"E=EpE", "E=a"}, true, 3}, {[]string{"S=SS", "S=a"}, true, 2}, {[]string{"S=SS", "S=", "S=ab"}, true, 2},
		{[]string{"S=a"}, false, 0}, {[]string{"S="}, false, 0}, {[]string{"S=S", "S=a"}, false, 0}, {[]string{"S=SS", "S="}, false, 0}, {[]string{"S=S"}, false, 0}, {[]string{"S=aS"}, false, 0}, {[]string{"S=ASA", "A=", "S=b"}, false, 0},
		{[]string{"S=a", "A=aA", "A=a"}, false, 0}, {[]string{"S=a", "S=AB", "A=aA", "A=a"}, false, 0}, {[]string{"S=a", "S=bAX", "A=aA", "A=a", "X=X"}, false, 0}, {[]string{"S=A", "S=a", "A=aA"}, false, 0},
		{[]string{"S=A", "A=B", "B=S", "B=c"}, false, 0}, {[]string{"S=A", "A=B", "B=Sd", "B=c"}, true, 2}, {[]string{"S=A", "A=B", "B=SC", "B=c", "C=C", "C="}, false, 0},
		{[]string{"S=ASA", "A=", "S=b", "A=B", "B=abc"}, true, 4}, // the shortest word of A is empty, but not each one
		{[]string{"S=SA", "S=", "A=BB", "B=", "B=CD", "C=", "D=", "D=xyz"}, true, 3},
		{[]string{"S=abAcd", "A=Be", "B=fA", "B=gh"}, true, 9},
		{huge(), false, 0}, {append(huge(), "A=aA"), true, 1}, {append(huge(), "Y=aY"), true, 1}, {append(huge()[:25], "Z=a"), false, 0}, {append(huge()[:25], "Z=a", "Z=Z"), false, 0}, {append(huge()[:25], "Z=a", "Z=aZ"), true, 0}, {append(huge()[:25], "Z=a", "A=z", "A=yA"), true, 2}, {append(huge()[:25], "Z=a", "A=z", "B=yB"), true, 0}, {append(huge()[:25], "Z=a", "A=z", "A=AB"), true, 0},
		{append(huge()[:25], "Z=a", "A=z", "B=S", "S=A", "S=yS"), true, 12},
		// 24 letters around it, within it and as its word, and one more
		{[]string{"S=aS", "S=Bbbbbbbbbbbb", "B=" + repeat("b", 12)}, true, 24}, {[]string{"S=aS", "S=BB", "B=" + repeat("b", 12)}, true, 0},
		{[]string{"S=ASB", "S=", "A=" + repeat("a", 12), "B=" + repeat("b", 11)}, true, 23}, {[]string{"S=ASB", "S=c", "A=" + repeat("a", 12), "B=" + repeat("b", 11)}, true, 24}, {[]string{"S=ASB", "S=cc", "A=" + repeat("a", 12), "B=" + repeat("b", 11)}, true, 0},
		{[]string{"S=ATB", "T=xT", "T=", "A=" + repeat("a", 12), "B=" + repeat("b", 11)}, true, 24}, {[]string{"S=ATB", "T=xT", "T=y", "A=" + repeat("a", 12), "B=" + repeat("b", 11)}, true, 0},
		{[]string{"S=AS", "S=", "A=BB", "B=" + repeat("b", 12)}, true, 24}, {[]string{"S=AS", "S=", "A=BBb", "B=" + repeat("b", 12)}, true, 0}, {[]string{"S=SA", "S=", "A=BB", "A=", "B=" + repeat("b", 12)}, true, 24}, {[]string{"S=SA", "S=", "A=BBb", "A=", "B=" + repeat("b", 12)}, true, 0},
		{[]string{"S=T", "S=AaT", "A=" + repeat("a", 12), "T=bbbbbbbbbbbT", "T=U", "U=T", "U=" + repeat("c", 12)}, true, 23},
		// The shortest loop is not that of the first nonterminal, nor of the shortest word.
		{[]string{"A=bB", "A=" + repeat("c", 12), "B=" + repeat("d", 12), "B=AA"}, true, 25}, {[]string{"A=aaaaaaA", "A=B", "A=z", "B=bbbbbbbC", "C=cC", "C=d"}, true, 7}, {[]string{"A=aaaaaaaaaA", "A=B", "A=z", "B=bbbbbbbC", "C=cC", "C=d"}, true, 9},
	} {
		finite, e := gram.Finite(x.g)
		if finite == x.ok || e != api.OK {
			t.Errorf("Finite of %q: %t, %d", x.g, finite, e)
		}
		p, ok, e := gram.Pump(x.g)
		if !x.ok || x.size == 0 || x.size > 24 {
			want := api.OK
			if x.ok {
				want = api.ErrLong
			}
			if ok || p != [5]string{} || e != want {
				t.Errorf("Pump of %q: %q, %t, %d", x.g, p, ok, e)
			}
			continue
		}
		if !ok || e != api.OK || !isLoop(x.g, p) || len(strings.Join(p[:], "")) < x.size {
			t.Errorf("Pump of %q: %q, %t, %d", x.g, p, ok, e)
		}
	}
}

// P3.5, P3.6: there is a pump just if there are words of any length, by the lengths of all words of random grammars.
func TestPumpsOfRandomGrammars(t *testing.T) {
	r := rand.New(rand.NewSource(7))
	infinite := 0
	for range 800 {
		g := randomGrammar(r, "SAB", "ab", 3+r.Intn(5), 3)
		// Without a loop a tree needs no nonterminal within itself, and has 27 letters at most.
		long := slices.Contains(lengths(g, 110)[28:], true)
		finite, e := gram.Finite(g)
		if finite == long || e != api.OK {
			t.Errorf("Finite of %q: %t, %d", g, finite, e)
		}
		x, ok, e := gram.Pump(g)
		if ok != long || e != api.OK {
			t.Errorf("Pump of %q: %q, %t, %d", g, x, ok, e)
			continue
		}
		if !ok {
			continue
		}
		infinite++
		if !isLoop(g, x) {
			t.Errorf("Pump of %q: %q is no loop", g, x)
		}
		for i := range 4 {
			w := x[0] + repeat(x[1], i) + x[2] + repeat(x[3], i) + x[4]
			if !isMade(g, g[0][0], w) {
				t.Errorf("Pump of %q: %q, but not %q", g, x, w)
			}
		}
	}
	if infinite < 200 {
		t.Errorf("only %d infinite languages", infinite)
	}
}

// far is a length that no word has.
const far = 1 << 20

// shortestLoop is the fewest letters of a loop, by the lengths of all ways from each nonterminal to each other one.
func shortestLoop(g []string) int {
	var word, some [128]int // the shortest word, and the shortest one that is not empty
	for i := range 128 {
		word[i], some[i] = far, far
	}
	for c := 'a'; c <= 'z'; c++ {
		word[c], some[c] = 1, 1
	}
	all := func(symbols string) int {
		n := 0
		for i := range len(symbols) {
			n = min(n+word[symbols[i]], far)
		}
		return n
	}
	one := func(symbols string) int {
		n := far
		for i := range len(symbols) {
			n = min(n, all(symbols[:i])+some[symbols[i]]+all(symbols[i+1:]))
		}
		return n
	}
	for range 30 {
		for _, rule := range g {
			word[rule[0]], some[rule[0]] = min(word[rule[0]], all(rule[2:])), min(some[rule[0]], one(rule[2:]))
		}
	}
	// way[i][j] is the fewest letters around j within i, way[i][j+128] the fewest that are not none.
	var way [128][256]int
	for i := range way {
		for j := range way[i] {
			way[i][j] = far
		}
		way[i][i] = 0
	}
	for _, rule := range g {
		for i := 2; i < len(rule); i++ {
			others := rule[2:i] + rule[i+1:]
			n := all(others)
			way[rule[0]][rule[i]] = min(way[rule[0]][rule[i]], n)
			way[rule[0]][int(rule[i])+128] = min(way[rule[0]][int(rule[i])+128], one(others))
		}
	}
	for k := 'A'; k <= 'Z'; k++ {
		for i := 'A'; i <= 'Z'; i++ {
			for j := 'A'; j <= 'Z'; j++ {
				way[i][j] = min(way[i][j], way[i][k]+way[k][j])
				way[i][j+128] = min(way[i][j+128], way[i][k+128]+way[k][j], way[i][k]+way[k][j+128])
			}
		}
	}
	shortest := far
	for n := 'A'; n <= 'Z'; n++ {
		shortest = min(shortest, way[g[0][0]][n]+way[n][n+128]+word[n])
	}
	return shortest
}

// P3.5: ErrLong just if each loop has more than 24 letters, of random grammars with long rules.
func TestLongPumps(t *testing.T) {
	r := rand.New(rand.NewSource(8))
	count := [2]int{}
	for range 6000 {
		g := randomGrammar(r, "SABCD", "abc", 5+r.Intn(6), 12)
		for _, n := range []string{"A=", "B=a", "D=" + repeat("b", r.Intn(12))} {
			if r.Intn(2) == 0 && !slices.Contains(g, n) {
				g = append(g, n)
			}
		}
		size := shortestLoop(g)
		finite, e := gram.Finite(g)
		if finite != (size >= far) || e != api.OK {
			t.Errorf("Finite of %q: %t, %d", g, finite, e)
		}
		x, ok, e := gram.Pump(g)
		switch {
		case size >= far:
			if ok || e != api.OK {
				t.Errorf("Pump of %q: %q, %t, %d", g, x, ok, e)
			}
		case size > 24:
			count[0]++
			if ok || x != [5]string{} || e != api.ErrLong {
				t.Errorf("Pump of %q: %q, %t, %d", g, x, ok, e)
			}
		default:
			count[1]++
			if !ok || e != api.OK || count[1]%10 == 0 && !isLoop(g, x) {
				t.Errorf("Pump of %q: %q, %t, %d", g, x, ok, e)
			}
		}
	}
	if min(count[0], count[1]) < 50 {
		t.Errorf("only %d long and %d short loops", count[0], count[1])
	}
}
