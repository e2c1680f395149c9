package gram

import "iter"

// maxPump is the limit of a pump's letters.
const maxPump = 24

// tooLong is a length that stands for all above maxPump: the shortest word of a grammar may have more letters than any memory.
const tooLong = maxPump + 1

// join is a and then b, cut where it is too long.
func join(a, b string) string {
	all := a + b
	return all[:min(len(all), tooLong)]
}

// A need is a string of symbols, and whether at least one letter is asked for.
type need struct {
	symbols string
	some    bool
}

// A lexicon is the shortest words of strings of symbols.
type lexicon struct {
	rules grammar
	words map[need]string
}

func newLexicon(rules grammar) *lexicon {
	l := &lexicon{rules, map[need]string{}}
	all := rules.strings()
	for _, s := range all {
		if isLeaf(s) {
			l.shorten(s, s)
		}
	}
	for changed := true; changed; {
		changed = false
		for _, s := range all {
			for _, pair := range rules.pairs(s) {
				for word := range l.joined(pair) {
					changed = l.shorten(s, word) || changed
				}
			}
		}
	}
	return l
}

// shorten takes in a word of symbols, and reports whether that is a shorter one.
func (l *lexicon) shorten(symbols, word string) bool {
	shorter := false
	for _, some := range [2]bool{false, word != ""} {
		old, ok := l.words[need{symbols, some}]
		if !ok || len(word) < len(old) {
			l.words[need{symbols, some}] = word
			shorter = true
		}
	}
	return shorter
}

// of yields the shortest word of symbols, and the shortest one that is not empty.
func (l *lexicon) of(symbols string) iter.Seq[string] {
	return func(yield func(string) bool) {
		for _, some := range [2]bool{false, true} {
			word, ok := l.words[need{symbols, some}]
			if ok && !yield(word) {
				return
			}
		}
	}
}

// joined yields the shortest words of both strings of symbols, one after the other.
func (l *lexicon) joined(pair [2]string) iter.Seq[string] {
	return func(yield func(string) bool) {
		for first := range l.of(pair[0]) {
			for rest := range l.of(pair[1]) {
				if !yield(join(first, rest)) {
					return
				}
			}
		}
	}
}

// A frame is what stands before and after something.
type frame struct {
	before, after string
}

func (f frame) size() int { return min(len(f.before)+len(f.after), tooLong) }

// around is the frame f with the inner one within it.
func (f frame) around(inner frame) frame {
	return frame{join(f.before, inner.before), join(inner.after, f.after)}
}

// steps yields the strings of symbols to which those can be taken apart, each with what then stands around it.
func (l *lexicon) steps(symbols string) iter.Seq2[string, frame] {
	return func(yield func(string, frame) bool) {
		for _, pair := range l.rules.pairs(symbols) {
			for word := range l.of(pair[1]) {
				if !yield(pair[0], frame{after: word}) {
					return
				}
			}
			for word := range l.of(pair[0]) {
				if !yield(pair[1], frame{before: word}) {
					return
				}
			}
		}
	}
}

// frames are the shortest words between which start can make each string of symbols.
func (l *lexicon) frames(start string) map[need]frame {
	found := map[need]frame{{start, false}: {}}
	queue := []need{{start, false}}
	for len(queue) > 0 {
		outer := found[queue[0]]
		symbols := queue[0].symbols
		queue = queue[1:]
		for next, inner := range l.steps(symbols) {
			f := outer.around(inner)
			for _, some := range [2]bool{false, f.size() > 0} {
				at := need{next, some}
				if old, ok := found[at]; !ok || f.size() < old.size() {
					found[at] = f
					queue = append(queue, at)
				}
			}
		}
	}
	return found
}

// A loop is the five words of a loop.
type loop [5]string

func (l loop) size() int {
	size := 0
	for _, word := range l {
		size += len(word)
	}
	return size
}

// loops are the shortest loops of each nonterminal of a clean grammar that has any; words that are too long are cut.
func (g grammar) loops() []loop {
	if len(g) == 0 {
		return nil
	}
	l := newLexicon(g)
	outer := l.frames(g.start())
	var found []loop
	for n := 'A'; n <= 'Z'; n++ {
		symbol := string(n)
		inner, ok := l.frames(symbol)[need{symbol, true}]
		if ok {
			at := need{symbol, false}
			found = append(found, loop{outer[at].before, inner.before, l.words[at], inner.after, outer[at].after})
		}
	}
	return found
}

// shortestLoop is the first of the shortest loops that are not too long, if there is one.
func shortestLoop(loops []loop) (found loop, ok bool) {
search:
	for size := range maxPump + 1 {
		for _, l := range loops {
			if l.size() == size {
				found, ok = l, true
				break search
			}
		}
	}
	return found, ok
}
