package gram_test

import (
	"maps"
	"math/rand"
	"slices"
	"strings"
)

// What follows is slow and plain models of the chapter's definitions, to which the package is compared.

// randomGrammar has rules of the nonterminals, the first of them being the start symbol.
func randomGrammar(r *rand.Rand, nonterminals, terminals string, rules, most int) []string {
	var g []string
	for len(g) < rules {
		left := nonterminals[r.Intn(len(nonterminals))]
		if len(g) == 0 {
			left = nonterminals[0]
		}
		s := string(left) + "="
		for range r.Intn(most + 1) {
			if r.Intn(2) == 0 {
				s += string(nonterminals[r.Intn(len(nonterminals))])
			} else {
				s += string(terminals[r.Intn(len(terminals))])
			}
		}
		if !slices.Contains(g, s) {
			g = append(g, s)
		}
	}
	return g
}

func isCapital(c byte) bool { return c >= 'A' && c <= 'Z' }

// forms are all strings of at most most symbols that can be made from s by replacing nonterminals, no string on the way having more.
func forms(g []string, s string, most int) map[string]bool {
	found := map[string]bool{s: true}
	work := []string{s}
	for len(work) > 0 {
		f := work[0]
		work = work[1:]
		for i := range len(f) {
			for _, rule := range g {
				next := f[:i] + rule[2:] + f[i+1:]
				if rule[0] == f[i] && len(next) <= most && !found[next] {
					found[next] = true
					work = append(work, next)
				}
			}
		}
	}
	return found
}

// letters are the elements of a set of bytes as a string.
func letters(s map[byte]bool) string {
	var l []byte
	for c := range s {
		l = append(l, c)
	}
	slices.Sort(l)
	return string(l)
}

// firsts and follows are found among all forms of at most most symbols.
func firsts(g []string, n byte, most int) string {
	found := map[byte]bool{}
	for f := range forms(g, string(n), most) {
		if f != "" && !isCapital(f[0]) {
			found[f[0]] = true
		}
	}
	return letters(found)
}

func follows(g []string, n byte, most int) string {
	found := map[byte]bool{}
	for f := range forms(g, g[0][:1], most) {
		f += "$"
		for i := range len(f) - 1 {
			if f[i] == n && !isCapital(f[i+1]) {
				found[f[i+1]] = true
			}
		}
	}
	return letters(found)
}

// canBeEmpty reports whether symbols can become empty, by forms of at most most symbols.
func canBeEmpty(g []string, symbols string, most int) bool {
	for i := range len(symbols) {
		if !forms(g, symbols[i:i+1], most)[""] {
			return false
		}
	}
	return true
}

// choices are the letters by which the rule is chosen.
func choices(g []string, rule string, most int) string {
	found := map[byte]bool{}
	for i := 2; i <= len(rule); i++ {
		if !canBeEmpty(g, rule[2:i], most) {
			break
		}
		var more string
		switch {
		case i == len(rule):
			more = follows(g, rule[0], most)
		case isCapital(rule[i]):
			more = firsts(g, rule[i], most)
		default:
			more = rule[i : i+1]
		}
		for _, c := range []byte(more) {
			found[c] = true
		}
	}
	return letters(found)
}

// language is the words of at most most letters of each nonterminal: whatever the rules make of known words, until that is nothing new.
func language(g []string, most int) map[byte]map[string]bool {
	found := map[byte]map[string]bool{}
	for c := byte('A'); c <= 'Z'; c++ {
		found[c] = map[string]bool{}
	}
	for size, before := 0, -1; size != before; {
		before = size
		for _, rule := range g {
			words := map[string]bool{"": true}
			for i := 2; i < len(rule); i++ {
				next := found[rule[i]]
				if !isCapital(rule[i]) {
					next = map[string]bool{rule[i : i+1]: true}
				}
				longer := map[string]bool{}
				for u := range words {
					for v := range next {
						if len(u)+len(v) <= most {
							longer[u+v] = true
						}
					}
				}
				words = longer
			}
			for w := range words {
				if !found[rule[0]][w] {
					found[rule[0]][w] = true
					size++
				}
			}
		}
	}
	return found
}

// wordsOf are the words of at most most letters, ordered.
func wordsOf(g []string, most int) []string {
	var l []string
	for w := range language(g, most)[g[0][0]] {
		l = append(l, w)
	}
	slices.SortFunc(l, func(a, b string) int {
		if len(a) != len(b) {
			return len(a) - len(b)
		}
		return strings.Compare(a, b)
	})
	return l
}

// A span is a nonterminal and two positions.
type span struct {
	n        byte
	from, to int
}

// numbers of trees are counted modulo this prime: those of endlessly many trees soon have more digits than there is memory.
const modulus = 1<<31 - 1

// sequences is the number of ways in which symbols become the letters from from to to of a word, if nonterminals can in the given numbers.
func sequences(w, symbols string, from, to int, trees map[span]int64) int64 {
	if symbols == "" {
		if from == to {
			return 1
		}
		return 0
	}
	if !isCapital(symbols[0]) {
		if from < to && w[from] == symbols[0] {
			return sequences(w, symbols[1:], from+1, to, trees)
		}
		return 0
	}
	total := int64(0)
	for at := from; at <= to; at++ {
		if first := trees[span{symbols[0], from, at}]; first != 0 {
			total = (total + first*sequences(w, symbols[1:], at, to, trees)) % modulus
		}
	}
	return total
}

// treesOf is the number of trees of w, counted by their height, and whether there are finitely many: a tree that is higher than there are spans has one of them within itself, and then there are trees of at most twice that height, too.
func treesOf(g []string, w string) (int64, bool) {
	lefts := map[byte]bool{}
	for _, rule := range g {
		lefts[rule[0]] = true
	}
	spans := len(lefts) * (len(w) + 1) * (len(w) + 2) / 2
	all := span{g[0][0], 0, len(w)}
	trees := map[span]int64{}
	low := int64(0)
	for height := range 2*spans + 2 {
		next := map[span]int64{}
		for from := range len(w) + 1 {
			for to := from; to <= len(w); to++ {
				for _, rule := range g {
					s := span{rule[0], from, to}
					next[s] = (next[s] + sequences(w, rule[2:], from, to, trees)) % modulus
				}
			}
		}
		if maps.Equal(trees, next) {
			return trees[all], true
		}
		trees = next
		if height == spans {
			low = trees[all]
		}
	}
	return trees[all], trees[all] == low
}

// isMade reports whether symbol can become w. Of each symbol at each position it finds all positions up to which it can reach, as bits, until nothing is new.
func isMade(g []string, symbol byte, w string) bool {
	var ends [128][64]uint64
	for i, c := range []byte(w) {
		ends[c][i] = 1 << (i + 1)
	}
	for changed := true; changed; {
		changed = false
		for from := range len(w) + 1 {
			for _, rule := range g {
				at := uint64(1) << from
				for _, c := range []byte(rule[2:]) {
					next := uint64(0)
					for i := range len(w) + 1 {
						if at>>i&1 == 1 {
							next |= ends[c][i]
						}
					}
					at = next
				}
				changed = changed || at&^ends[rule[0]][from] != 0
				ends[rule[0]][from] |= at
			}
		}
	}
	return ends[symbol][0]>>len(w)&1 == 1
}

// lengths reports for each number up to most whether the language has a word with that many letters.
func lengths(g []string, most int) []bool {
	found := map[byte][]bool{}
	for c := range byte('z' + 1) {
		found[c] = make([]bool, most+1)
		if c >= 'a' && most >= 1 {
			found[c][1] = true
		}
	}
	for changed := true; changed; {
		changed = false
		for _, rule := range g {
			sums := make([]bool, most+1)
			sums[0] = true
			for i := 2; i < len(rule); i++ {
				longer := make([]bool, most+1)
				for a, is := range sums {
					for b := 0; is && a+b <= most; b++ {
						longer[a+b] = longer[a+b] || found[rule[i]][b]
					}
				}
				sums = longer
			}
			for n, is := range sums {
				if is && !found[rule[0]][n] {
					found[rule[0]][n] = true
					changed = true
				}
			}
		}
	}
	return found[g[0][0]]
}
