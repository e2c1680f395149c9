package gram

import (
	"iter"

	"forcola/api"
)

// The limits of results.
const (
	maxTrees = 1_000_000_000_000_000
	maxNodes = 2000
)

// A part is a string of symbols, and the two positions between which the word has what becomes of it.
type part struct {
	symbols  string
	from, to int
}

// splits yields for each position between those of p the parts with the one string before it, and the other one after it.
func (p part) splits(pair [2]string) iter.Seq[[2]part] {
	return func(yield func([2]part) bool) {
		for at := p.from; at <= p.to; at++ {
			if !yield([2]part{{pair[0], p.from, at}, {pair[1], at, p.to}}) {
				return
			}
		}
	}
}

// A chart knows which strings of symbols can become which parts of a word.
type chart struct {
	rules   grammar
	strings []string
	word    string
	nodes   map[part]int // how many nodes the smallest trees of the symbols have together, at most one more than maxNodes; only of symbols that can become that part
}

// readWord returns the chart of w, or the error that Has returns for it.
func readWord(g []string, w string) (*chart, api.Errno) {
	rules, e := read(g)
	if e != api.OK {
		return nil, e
	}
	if len(w) > maxWord || !isWord(w) {
		return nil, api.ErrArg
	}
	return newChart(rules, w), api.OK
}

// newChart settles shorter parts of the word before longer ones, which are made of them.
func newChart(rules grammar, w string) *chart {
	c := &chart{rules: rules, strings: rules.strings(), word: w, nodes: map[part]int{}}
	for i := range len(w) {
		c.nodes[part{w[i : i+1], i, i + 1}] = 0
	}
	for i := range len(w) + 1 {
		c.nodes[part{"", i, i}] = 0
	}
	for length := range len(w) + 1 {
		for from := range len(w) - length + 1 {
			for c.improve(from, from+length) {
			}
		}
	}
	return c
}

// improve finds smaller trees for that part of the word, and reports whether there are any.
func (c *chart) improve(from, to int) bool {
	improved := false
	for _, s := range c.strings {
		p := part{s, from, to}
		for rule, way := range c.ways(p) {
			nodes := c.nodes[way[0]] + c.nodes[way[1]]
			if rule != noRule {
				nodes++
			}
			nodes = min(nodes, maxNodes+1)
			if old, ok := c.nodes[p]; !ok || nodes < old {
				c.nodes[p] = nodes
				improved = true
			}
		}
	}
	return improved
}

func (c *chart) has(p part) bool {
	_, ok := c.nodes[p]
	return ok
}

// whole is the start symbol and the whole word.
func (c *chart) whole() part {
	return part{c.rules.start(), 0, len(c.word)}
}

// ways yields the parts of which p can be made, with the rule by which it is.
func (c *chart) ways(p part) iter.Seq2[int, [2]part] {
	return func(yield func(int, [2]part) bool) {
		for rule, pair := range c.rules.pairs(p.symbols) {
			for way := range p.splits(pair) {
				if c.has(way[0]) && c.has(way[1]) && !yield(rule, way) {
					return
				}
			}
		}
	}
}

// count is the number of trees of the whole word, at most one more than maxTrees, and whether there are endlessly many.
func (c *chart) count() (trees int64, endless bool) {
	if !c.has(c.whole()) {
		return 0, false
	}
	known := map[part]int64{}
	var count func(p part) int64
	count = func(p part) int64 {
		if isLeaf(p.symbols) {
			return 1
		}
		if n, ok := known[p]; ok {
			// A part that is not yet counted is within itself, and so can be put into itself again and again.
			endless = endless || n == 0
			return n
		}
		known[p] = 0
		total := int64(0)
		for _, way := range c.ways(p) {
			first, rest := count(way[0]), count(way[1])
			total = min(total+product(first, rest), maxTrees+1)
		}
		known[p] = total
		return total
	}
	trees = count(c.whole())
	return trees, endless
}

// product is that of a and b, at most one more than maxTrees.
func product(a, b int64) int64 {
	if b != 0 && a > maxTrees/b {
		return maxTrees + 1
	}
	return a * b
}

// trees are the smallest trees of the nonterminals of p.
func (c *chart) trees(p part) []Tree {
	for rule, way := range c.ways(p) {
		nodes := c.nodes[way[0]] + c.nodes[way[1]]
		if rule == noRule && nodes == c.nodes[p] {
			return append(c.trees(way[0]), c.trees(way[1])...)
		}
		if rule != noRule && nodes+1 == c.nodes[p] {
			return []Tree{{Rule: rule, Parts: c.trees(way[0])}}
		}
	}
	return nil
}
