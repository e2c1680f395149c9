package gram

import "strings"

// maxLetters is the limit of a tree's word.
const maxLetters = 2000

// A writer writes the word of a tree. A tree that is given may contain itself, so nodes are counted on the way.
type writer struct {
	rules grammar
	nodes int
	word  strings.Builder
}

// write adds the word of t, and reports whether t is a tree of left within the limits.
func (w *writer) write(left string, t Tree) bool {
	w.nodes++
	if w.nodes > maxNodes || t.Rule < 0 || t.Rule >= len(w.rules) || w.rules[t.Rule].left != left {
		return false
	}
	parts := t.Parts
	for _, symbol := range w.rules[t.Rule].right {
		if isTerminal(symbol) {
			w.word.WriteRune(symbol)
			continue
		}
		if len(parts) == 0 || !w.write(string(symbol), parts[0]) {
			return false
		}
		parts = parts[1:]
	}
	return len(parts) == 0 && w.word.Len() <= maxLetters
}
