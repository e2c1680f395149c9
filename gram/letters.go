package gram

// end is the letter that follows what comes last.
const end = '$'

// A table is a set for each symbol.
type table [128]set

// texts are the sets of the nonterminals, A to Z.
func (t *table) texts() []string {
	var list []string
	for n := 'A'; n <= 'Z'; n++ {
		list = append(list, t[n].text())
	}
	return list
}

// letters are what an LL(1) table is built from.
type letters struct {
	rules    grammar
	nullable set
	firsts   table // a terminal's first letter is itself
	follows  table
}

func newLetters(rules grammar) *letters {
	l := &letters{rules: rules, nullable: rules.nullable()}
	l.findFirsts()
	l.findFollows()
	return l
}

func (l *letters) findFirsts() {
	for letter := 'a'; letter <= 'z'; letter++ {
		l.firsts[letter][letter] = true
	}
	for before := (table{}); before != l.firsts; {
		before = l.firsts
		for _, r := range l.rules {
			l.firsts[r.left[0]].join(l.firstsOf(r.right))
		}
	}
}

// firstsOf is the first letters of a string of symbols, as far as those of its symbols are known.
func (l *letters) firstsOf(symbols string) set {
	var s set
	for i := range len(symbols) {
		s.join(l.firsts[symbols[i]])
		if !l.nullable[symbols[i]] {
			break
		}
	}
	return s
}

// findFollows passes over rules that cannot be reached: nothing stands after a symbol that no string made from the start symbol contains.
func (l *letters) findFollows() {
	reachable := l.rules.reachable(l.rules.start())
	l.follows[l.rules.start()[0]][end] = true
	for before := (table{}); before != l.follows; {
		before = l.follows
		for _, r := range l.rules {
			if !reachable.hasAll(r.left) {
				continue
			}
			for i := range r.right {
				l.follows[r.right[i]].join(l.choosing(r.left, r.right[i+1:]))
			}
		}
	}
}

// choosing is the letters with which symbols can begin that end what left becomes, or that can come after them if they become empty.
func (l *letters) choosing(left, symbols string) set {
	s := l.firstsOf(symbols)
	if l.nullable.hasAll(symbols) {
		s.join(l.follows[left[0]])
	}
	return s
}

// conflict is the first nonterminal and letter, and the first pair of rules that are both chosen by it.
func (l *letters) conflict() (string, [2]int, bool) {
	var choosing []set
	for _, r := range l.rules {
		choosing = append(choosing, l.choosing(r.left, r.right))
	}
	for n := 'A'; n <= 'Z'; n++ {
		for letter := range len(set{}) {
			first := noRule
			for i, r := range l.rules {
				if r.left != string(n) || !choosing[i][letter] {
					continue
				}
				if first != noRule {
					return string([]byte{byte(n), byte(letter)}), [2]int{first, i}, true
				}
				first = i
			}
		}
	}
	return "", [2]int{}, false
}
