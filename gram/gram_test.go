package gram_test

import (
	"fmt"
	"math/rand"
	"slices"
	"strings"
	"testing"

	"forcola/api"
	"forcola/gram"
)

func repeat(s string, n int) string { return strings.Repeat(s, n) }

// many are n different rules.
func many(n int) []string {
	var g []string
	for i := range n {
		g = append(g, "S="+string(rune('a'+i%26))+repeat("b", i/26))
	}
	return g
}

// P3.1: what a grammar is.
func TestCheck(t *testing.T) {
	for _, x := range []struct {
		g    []string
		want api.Errno
	}{
		{[]string{"S="}, api.OK}, {[]string{"S=a"}, api.OK}, {[]string{"A=zZ"}, api.OK}, {[]string{"Z=aA"}, api.OK}, {[]string{"S=aSb", "S="}, api.OK}, {[]string{"S=A"}, api.OK}, {[]string{"S=a", "A=a"}, api.OK},
		{[]string{"S=" + repeat("a", 12)}, api.OK}, {[]string{"S=" + repeat("A", 12)}, api.OK}, {[]string{"S=" + repeat("a", 13)}, api.ErrRule}, {[]string{"S=" + repeat("a", 1<<20)}, api.ErrRule},
		{many(40), api.OK}, {many(41), api.ErrLong}, {make([]string, 41), api.ErrLong}, {make([]string, 40), api.ErrRule},
		{nil, api.ErrRule}, {[]string{}, api.ErrRule}, {[]string{""}, api.ErrRule}, {[]string{"S"}, api.ErrRule}, {[]string{"="}, api.ErrRule}, {[]string{"=a"}, api.ErrRule}, {[]string{"s=a"}, api.ErrRule}, {[]string{"Sa"}, api.ErrRule}, {[]string{"SS=a"}, api.ErrRule}, {[]string{"S=="}, api.ErrRule}, {[]string{"S=a=b"}, api.ErrRule}, {[]string{"S =a"}, api.ErrRule}, {[]string{"S= a"}, api.ErrRule}, {[]string{"S=a "}, api.ErrRule}, {[]string{" S=a"}, api.ErrRule}, {[]string{"S=a\n"}, api.ErrRule}, {[]string{"S=1"}, api.ErrRule}, {[]string{"S=$"}, api.ErrRule}, {[]string{"S=a|b"}, api.ErrRule},
		{[]string{"[=a"}, api.ErrRule}, {[]string{"@=a"}, api.ErrRule}, {[]string{"S=`"}, api.ErrRule}, {[]string{"S={"}, api.ErrRule}, {[]string{"S=["}, api.ErrRule}, {[]string{"S=@"}, api.ErrRule}, {[]string{"S=\u00e4"}, api.ErrRule}, {[]string{"\u00c4=a"}, api.ErrRule}, {[]string{"S=\xff"}, api.ErrRule}, {[]string{"\xff=a"}, api.ErrRule}, {[]string{"S\xff=a"}, api.ErrRule}, {[]string{"S=\x00"}, api.ErrRule}, {[]string{"S\u00e4"}, api.ErrRule},
		{[]string{"S=a", "S=a"}, api.ErrRule}, {[]string{"S=", "S=a", "S="}, api.ErrRule}, {[]string{"S=a", "S=b", "b"}, api.ErrRule}, {append(many(39), "S=a"), api.ErrRule}, {append(many(40), "S=a"), api.ErrLong},
	} {
		if e := gram.Check(x.g); e != x.want {
			t.Errorf("Check of %.60q: %d, not %d", x.g, e, x.want)
		}
	}
}

// calls are all calls that take a grammar; they report whether all but the error is zero. What else they are given is wrong.
func calls() map[string]func(g []string) (bool, api.Errno) {
	return map[string]func(g []string) (bool, api.Errno){
		"Check":    func(g []string) (bool, api.Errno) { return true, gram.Check(g) },
		"Clean":    func(g []string) (bool, api.Errno) { l, e := gram.Clean(g); return len(l) == 0, e },
		"Nullable": func(g []string) (bool, api.Errno) { s, e := gram.Nullable(g); return s == "", e },
		"Firsts":   func(g []string) (bool, api.Errno) { l, e := gram.Firsts(g); return len(l) == 0, e },
		"Follows":  func(g []string) (bool, api.Errno) { l, e := gram.Follows(g); return len(l) == 0, e },
		"Conflict": func(g []string) (bool, api.Errno) {
			s, x, ok, e := gram.Conflict(g)
			return s == "" && x == [2]int{} && !ok, e
		},
		"Has":   func(g []string) (bool, api.Errno) { ok, e := gram.Has(g, "A"); return !ok, e },
		"Count": func(g []string) (bool, api.Errno) { n, e := gram.Count(g, repeat("a", 25)); return n == 0, e },
		"Parse": func(g []string) (bool, api.Errno) {
			x, ok, e := gram.Parse(g, " ")
			return x.Rule == 0 && len(x.Parts) == 0 && !ok, e
		},
		"Word":      func(g []string) (bool, api.Errno) { s, e := gram.Word(g, gram.Tree{Rule: -1}); return s == "", e },
		"Words":     func(g []string) (bool, api.Errno) { l, e := gram.Words(g, 11); return len(l) == 0, e },
		"Ambiguous": func(g []string) (bool, api.Errno) { s, ok, e := gram.Ambiguous(g, -1); return s == "" && !ok, e },
		"Finite":    func(g []string) (bool, api.Errno) { ok, e := gram.Finite(g); return !ok, e },
		"Pump":      func(g []string) (bool, api.Errno) { x, ok, e := gram.Pump(g); return x == [5]string{} && !ok, e },
	}
}

// P3.1: what Check returns comes first, with zero values next to it.
func TestFirstWhatCheckReturns(t *testing.T) {
	for name, call := range calls() {
		for want, l := range map[api.Errno][][]string{api.ErrRule: {nil, {"S"}, {"S=a", "S=a"}, {"S=a", "s=a"}}, api.ErrLong: {many(41), make([]string, 100)}} {
			for _, g := range l {
				if zero, e := call(g); !zero || e != want {
					t.Errorf("%s of %.40q: %d, not %d; zero values %t", name, g, e, want, zero)
				}
			}
		}
	}
}

// P3.1: rules that some tree contains, one of the start symbol first.
func TestClean(t *testing.T) {
	for _, x := range [][2][]string{
		{{"S=a"}, {"S=a"}}, {{"S="}, {"S="}}, {{"S=aSb", "S="}, {"S=aSb", "S="}}, {{"S=S", "S=a"}, {"S=S", "S=a"}},
		{{"S=A", "S=a"}, {"S=a"}},                             // A has no rule
		{{"S=A", "S=a", "A=A"}, {"S=a"}},                      // A has no tree
		{{"S=a", "A=a"}, {"S=a"}},                             // A is not reached
		{{"S=a", "A=S"}, {"S=a"}},                             //
		{{"S=AB", "S=a", "A=b"}, {"S=a"}},                     // A is reached only by a rule that has no tree
		{{"S=B", "A=a", "S=A", "S=b"}, {"S=A", "A=a", "S=b"}}, // a rule of the start symbol comes first
		{{"S=B", "A=S", "A=a", "C=a", "S=Ab", "A=bC", "S=c"}, {"S=Ab", "A=S", "A=a", "C=a", "A=bC", "S=c"}},
		{{"S=SS", "S=A", "A=B", "B=C", "C="}, {"S=SS", "S=A", "A=B", "B=C", "C="}},
		{{"S=AX", "S=b", "A=a", "X=XX", "X=Xa"}, {"S=b"}},
		{{"C=a", "A=b", "B=C"}, {"C=a"}},
		{{"S=Z", "Z=A", "A=z", "Y=Z"}, {"S=Z", "Z=A", "A=z"}},
	} {
		if l, e := gram.Clean(x[0]); !slices.Equal(l, x[1]) || e != api.OK {
			t.Errorf("Clean of %q: %q, %d", x[0], l, e)
		}
	}
	for _, g := range [][]string{{"S=S"}, {"S=A"}, {"S=aS"}, {"S=AB", "A=a"}, {"S=A", "A=B", "B=S", "C=a"}, {"S=A", "A=aA", "B=S", "B=b"}} {
		if l, e := gram.Clean(g); len(l) != 0 || e != api.ErrNone {
			t.Errorf("Clean of %q: %q, %d", g, l, e)
		}
	}
}

// P3.1: the nonterminals that can become empty.
func TestNullable(t *testing.T) {
	for _, x := range []struct {
		g    []string
		want string
	}{
		{[]string{"S=aSb", "S="}, "S"}, {[]string{"S=a"}, ""}, {[]string{"S=S"}, ""}, {[]string{"S=A", "A=B", "B="}, "ABS"}, {[]string{"S=ABa", "A=", "B="}, "AB"}, {[]string{"Z=YXW", "Y=XX", "X=WW", "W="}, "WXYZ"}, {[]string{"S=a", "T="}, "T"}, {[]string{"S=AB", "A="}, "A"}, {[]string{"S=SA", "A=", "A=S"}, "A"}, {[]string{"S=aA", "S=AA", "A=B", "B=A", "B=", "C=Bc"}, "ABS"},
	} {
		if s, e := gram.Nullable(x.g); s != x.want || e != api.OK {
			t.Errorf("Nullable of %q: %q, %d", x.g, s, e)
		}
	}
}

// P3.1: nullable nonterminals are those with the empty word, and the rules of Clean those that occur in trees, of random grammars.
func TestCleanOfRandomGrammars(t *testing.T) {
	r := rand.New(rand.NewSource(1))
	for range 400 {
		g := randomGrammar(r, "SABCD", "ab", 3+r.Intn(6), 3)
		words := language(g, 0)
		var nullable string
		for n := byte('A'); n <= 'Z'; n++ {
			if words[n][""] {
				nullable += string(n)
			}
		}
		if s, e := gram.Nullable(g); s != nullable || e != api.OK {
			t.Errorf("Nullable of %q: %q, not %q, %d", g, s, nullable, e)
		}
		want := occurring(g)
		l, e := gram.Clean(g)
		if !slices.Equal(l, want) || (e == api.OK) != (len(want) > 0) || e != api.OK && e != api.ErrNone {
			t.Errorf("Clean of %q: %q, not %q, %d", g, l, want, e)
		}
	}
}

// occurring are the rules that a tree contains: those of which the smallest trees of the parts can be put together, and that can be put into a tree of the start symbol.
func occurring(g []string) []string {
	made := map[byte]bool{}
	for c := byte('a'); c <= 'z'; c++ {
		made[c] = true
	}
	can := func(rule string) bool {
		return !slices.ContainsFunc([]byte(rule[2:]), func(c byte) bool { return !made[c] })
	}
	for range g {
		for _, rule := range g {
			made[rule[0]] = made[rule[0]] || can(rule)
		}
	}
	placed := map[byte]bool{g[0][0]: true}
	var l []string
	for range g {
		l = nil
		for _, rule := range g {
			if !can(rule) || !placed[rule[0]] {
				continue
			}
			l = append(l, rule)
			for _, c := range []byte(rule[2:]) {
				placed[c] = true
			}
		}
	}
	for i, rule := range l {
		if rule[0] == g[0][0] {
			return slices.Insert(slices.Delete(l, i, i+1), 0, rule)
		}
	}
	return nil
}

// R4: arguments stay what they are, also beyond their lengths, and results are new.
func TestMemory(t *testing.T) {
	g := []string{"S=B", "A=a", "S=A", "S=AS", "beyond"}
	keep := slices.Clone(g)
	l, e := gram.Clean(g[:4])
	if e != api.OK || !slices.Equal(g, keep) {
		t.Errorf("Clean changes its argument to %q, %d", g, e)
	}
	l[0] = "changed"
	for name, call := range calls() {
		call(g[:4])
		if !slices.Equal(g, keep) {
			t.Errorf("%s changes its argument to %q", name, g)
		}
	}
	again, e := gram.Clean(g[:4])
	if fmt.Sprint(again) != "[S=A A=a S=AS]" || e != api.OK {
		t.Errorf("Clean again: %q, %d", again, e)
	}
	x, _, _ := gram.Parse(g[:4], "aaa")
	y, _, _ := gram.Parse(g[:4], "aaa")
	x.Parts[0].Rule = 99
	if y.Parts[0].Rule == 99 {
		t.Error("trees share memory")
	}
}
