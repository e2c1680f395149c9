package gram

import (
	"iter"
	"slices"
	"strings"

	"forcola/api"
)

// The limits of arguments.
const (
	maxRules   = 40
	maxSymbols = 12 // of a right side
	maxWord    = 24 // letters
	maxMost    = 10 // letters of all words
)

// A rule is a left side of one symbol, and a right side.
type rule struct {
	left, right string
}

// A grammar is its rules; the first one is one of the start symbol.
type grammar []rule

func isNonterminal(symbol rune) bool { return 'A' <= symbol && symbol <= 'Z' }

func isTerminal(symbol rune) bool { return 'a' <= symbol && symbol <= 'z' }

// isWord reports whether s is small letters only.
func isWord(s string) bool {
	for _, symbol := range s {
		if !isTerminal(symbol) {
			return false
		}
	}
	return true
}

// isLeaf reports whether symbols is a terminal or nothing, so that it can be replaced by nothing else.
func isLeaf(symbols string) bool { return len(symbols) <= 1 && isWord(symbols) }

// isRule reports whether s is a rule.
func isRule(s string) bool {
	for i, symbol := range s {
		ok := isNonterminal(symbol) || isTerminal(symbol)
		switch i {
		case 0:
			ok = isNonterminal(symbol)
		case 1:
			ok = symbol == '='
		}
		if !ok {
			return false
		}
	}
	return len("S=") <= len(s) && len(s) <= len("S=")+maxSymbols
}

// read returns the rules of g, or the error that Check returns for it. It reads copies: single letters of what it reads become results, which share no memory with arguments.
func read(g []string) (grammar, api.Errno) {
	if len(g) > maxRules {
		return nil, api.ErrLong
	}
	var rules grammar
	for _, s := range g {
		if !isRule(s) {
			return nil, api.ErrRule
		}
		s = strings.Clone(s)
		r := rule{s[:1], s[len("S="):]}
		if slices.Contains(rules, r) {
			return nil, api.ErrRule
		}
		rules = append(rules, r)
	}
	if len(rules) == 0 {
		return nil, api.ErrRule
	}
	return rules, api.OK
}

func (g grammar) start() string { return g[0].left }

// noRule stands for the index of a rule where none is used.
const noRule = -1

// pairs yields what symbols can be taken apart to, each time two strings of symbols: a nonterminal to a right side and nothing, with the rule's index; several symbols to the first one and the others.
func (g grammar) pairs(symbols string) iter.Seq2[int, [2]string] {
	return func(yield func(int, [2]string) bool) {
		if len(symbols) > 1 {
			yield(noRule, [2]string{symbols[:1], symbols[1:]})
			return
		}
		for i, r := range g {
			if r.left == symbols && !yield(i, [2]string{r.right, ""}) {
				return
			}
		}
	}
}

// strings are all that symbols of g can be taken apart to, each once, the shorter ones first: what is made of others then comes after most of them.
func (g grammar) strings() []string {
	found := []string{""}
	for _, r := range g {
		found = append(found, r.left)
		for i := range r.right {
			found = append(found, r.right[i:i+1], r.right[i:])
		}
	}
	slices.SortFunc(found, shorterFirst)
	return slices.Compact(found)
}

// shorterFirst compares by length, and then as strings.
func shorterFirst(a, b string) int {
	if len(a) != len(b) {
		return len(a) - len(b)
	}
	return strings.Compare(a, b)
}
