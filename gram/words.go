package gram

import (
	"iter"
	"maps"
	"slices"

	"forcola/api"
)

// maxWords is the limit of all words.
const maxWords = 1000

// several stands for any number of trees above one.
const several = 2

// A share is the words of a string of symbols that have that many letters.
type share struct {
	symbols string
	letters int
}

// A harvest is the words of each share, with the number of trees of each of them: one, or several.
type harvest struct {
	rules   grammar
	strings []string
	most    map[string]int // how many letters words of each string of symbols may have
	trees   map[share]map[string]int
	full    bool // whether there are too many words
}

// treesOfWords returns the words of at most most letters with their numbers of trees, or the error that Words returns.
func treesOfWords(g []string, most int) (map[string]int, api.Errno) {
	rules, e := read(g)
	if e != api.OK {
		return nil, e
	}
	if most < 0 || most > maxMost {
		return nil, api.ErrArg
	}
	kept := rules.clean()
	if len(kept) == 0 {
		return nil, api.OK
	}
	h := newHarvest(kept, most)
	trees := map[string]int{}
	for letters := range most + 1 {
		for h.improve(letters) {
		}
		if h.full {
			return nil, api.ErrLong
		}
		maps.Copy(trees, h.trees[share{kept.start(), letters}])
	}
	return trees, api.OK
}

// newHarvest leaves room for the letters that stand around a string of symbols in words of the language.
func newHarvest(rules grammar, most int) *harvest {
	h := &harvest{rules, rules.strings(), map[string]int{}, map[share]map[string]int{}, false}
	around := newLexicon(rules).frames(rules.start())
	for _, s := range h.strings {
		h.most[s] = most - around[need{s, false}].size()
	}
	return h
}

// improve finds more words of that many letters, or more trees of them, and reports whether there are any. It gives up if there are too many: different words of a string of symbols make, with the fewest letters around them, as many different words of the language.
func (h *harvest) improve(letters int) bool {
	improved := false
	for _, s := range h.strings {
		if letters > h.most[s] {
			continue
		}
		p := share{s, letters}
		trees := h.made(p)
		if maps.Equal(trees, h.trees[p]) {
			continue
		}
		h.trees[p] = trees
		improved = true
		if h.count(s, letters) > maxWords {
			h.full = true
			return false
		}
	}
	return improved
}

// count is how many words of symbols with at most that many letters are known.
func (h *harvest) count(symbols string, letters int) int {
	all := 0
	for n := range letters + 1 {
		all += len(h.trees[share{symbols, n}])
	}
	return all
}

// made is the words of p, made of what is known so far; not all of them, if there are too many.
func (h *harvest) made(p share) map[string]int {
	made := map[string]int{}
	if isLeaf(p.symbols) && len(p.symbols) == p.letters {
		made[p.symbols] = 1
	}
	for _, pair := range h.rules.pairs(p.symbols) {
		for word, trees := range h.joined(pair, p.letters) {
			made[word] = min(made[word]+trees, several)
			if len(made) > maxWords {
				return made
			}
		}
	}
	return made
}

// joined yields the words of that many letters that begin with one of the first string of symbols and end with one of the other, with the number of their trees; a word comes once for each place where it can be divided.
func (h *harvest) joined(pair [2]string, letters int) iter.Seq2[string, int] {
	return func(yield func(string, int) bool) {
		for n := range letters + 1 {
			rests := h.trees[share{pair[1], letters - n}]
			for first, some := range h.trees[share{pair[0], n}] {
				for rest, others := range rests {
					if !yield(first+rest, some*others) {
						return
					}
				}
			}
		}
	}
}

// inOrder is the words, shorter ones first.
func inOrder(trees map[string]int) []string {
	return slices.SortedFunc(maps.Keys(trees), shorterFirst)
}
