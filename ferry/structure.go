package ferry

// structure tries all X, and all Y1 and Y2 with each of them.
func (p passengers) structure(seats int) ([5]int, bool) {
	split := p.splitter()
	var found [5]int
	ok := false
search:
	for x := range p.all().groups() {
		y := p.all() &^ x
		if y.size() > seats || !p.isQuiet(x) {
			continue
		}
		for y1 := range p.quietGroups(y) {
			for y2 := range p.quietGroups(y) {
				if found, ok = split(x, y1, y2); ok {
					break search
				}
			}
		}
	}
	return found, ok
}

// splitter returns what is tried for each X, Y1 and Y2: X1 gets all that may be with Y1, and X2 all others that may be with Y2, so that X3 is as small as can be.
func (p passengers) splitter() func(x, y1, y2 group) ([5]int, bool) {
	foesOf := p.foesOf
	return func(x, y1, y2 group) ([5]int, bool) {
		x1 := x &^ foesOf(y1)
		x2 := x &^ x1 &^ foesOf(y2)
		x3 := x &^ x1 &^ x2
		if y1.size()+y2.size() < x3.size() {
			return [5]int{}, false
		}
		return [5]int{int(x1), int(x2), int(x3), int(y1), int(y2)}, true
	}
}

// isStructure needs no limit for few seats, as Y1 is not empty and so Y has at least one.
func (p passengers) isStructure(seats int, sets [5]int) bool {
	x1, x2, x3, y1, y2 := group(sets[0]), group(sets[1]), group(sets[2]), group(sets[3]), group(sets[4])
	x := x1 | x2 | x3
	y := p.all() &^ x
	if !x.isWithin(p.all()) || !y1.isWithin(y) || !y2.isWithin(y) || y1 == 0 || y2 == 0 {
		return false
	}
	areApart := x1&x2 == 0 && x1&x3 == 0 && x2&x3 == 0
	areQuiet := p.isQuiet(x) && p.isQuiet(x1|y1) && p.isQuiet(x2|y2)
	return areApart && areQuiet && y.size() <= seats && y1.size()+y2.size() >= x3.size()
}
