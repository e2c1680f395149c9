package shift

// areElements reports whether all of x are numbers of elements.
func (o order) areElements(x [4]int) bool {
	for _, y := range x {
		if !o.isElement(y) {
			return false
		}
	}
	return true
}

// isTwoTwo reports whether x is a two and two. Such four are different without being asked: were two of them one, a would be before d, or c before b.
func (o order) isTwoTwo(x [4]int) bool {
	if !o.areElements(x) {
		return false
	}
	a, b, c, d := x[0], x[1], x[2], x[3]
	return o.isBefore(a, b) && o.isBefore(c, d) && !o.isBefore(a, d) && !o.isBefore(c, b)
}

// twoTwo finds a two and two: b and d of which each has something before it that is not before the other one.
func (o order) twoTwo() ([4]int, bool) {
	for b := range o.n {
		for d := range b {
			onlyB, onlyD := o.before[b]&^o.before[d], o.before[d]&^o.before[b]
			if onlyB != 0 && onlyD != 0 {
				return [4]int{onlyB.first(), b, onlyD.first(), d}, true
			}
		}
	}
	return [4]int{}, false
}

// isThreeOne reports whether x is a three and one.
func (o order) isThreeOne(x [4]int) bool {
	if !o.areElements(x) {
		return false
	}
	a, b, c, d := x[0], x[1], x[2], x[3]
	return o.isBefore(a, b) && o.isBefore(b, c) && o.overlappingAll(a, b, c).has(d)
}

// threeOne finds a three and one.
func (o order) threeOne() ([4]int, bool) {
	for b := range o.n {
		for a := range o.before[b].each() {
			for c := range o.after[b].each() {
				if s := o.overlappingAll(a, b, c); s != 0 {
					return [4]int{a, b, c, s.first()}, true
				}
			}
		}
	}
	return [4]int{}, false
}

// overlappingAll is the set of all that overlaps each of the elements.
func (o order) overlappingAll(elements ...int) set {
	s := o.all()
	for _, x := range elements {
		s &= o.overlapping(x)
	}
	return s
}
