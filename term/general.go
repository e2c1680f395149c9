package term

// A pair is two terms, or two names, by their texts.
type pair struct {
	left, right string
}

// generalize is the generalization of s and t, and the number of its variables: one for each two different terms that stand at the same place in both. They are numbered as they come, which makes it canonical; from 26 on they are no letters, and the result is no term.
func generalize(s, t node) (node, int) {
	found := map[pair]variable{}
	var general func(s, t node) node
	general = func(s, t node) node {
		if x, y, ok := sameName(s, t); ok {
			var args []node
			for a, b := range pairs(x, y) {
				n := general(a, b)
				args = append(args, n)
			}
			return newCall(x.name, args)
		}
		p := pair{s.text(), t.text()}
		v, ok := found[p]
		if !ok {
			v = letter(len(found))
			found[p] = v
		}
		return v
	}
	n := general(s, t)
	return n, len(found)
}
