package hue

import (
	"slices"
)

// areLists reports whether there are so many lists, each of numbers from 0 on, less than maxNumbers and rising.
func areLists(lists [][]int, count int) bool {
	if len(lists) != count {
		return false
	}
	for _, list := range lists {
		least := 0
		for _, number := range list {
			if number < least || number >= maxNumbers {
				return false
			}
			least = number + 1
		}
	}
	return true
}

// holders is the set of the lists that have the number.
func holders(lists [][]int, number int) set {
	found := set(0)
	for at, list := range lists {
		if slices.Contains(list, number) {
			found |= single(at)
		}
	}
	return found
}

// meetings are for each edge the set of the edges that it meets.
func (g graph) meetings() []set {
	meet := make([]set, len(g.edges))
	for a, e := range g.edges {
		for b, f := range g.edges {
			if e.meets(f) {
				meet[a] |= single(b)
			}
		}
	}
	return meet
}

// greatestGroups are those sets of items, of which no two meet, to which none of the items can be added.
func greatestGroups(items set, meet []set) []set {
	var found []set
	for s := items; ; s = (s - 1) & items {
		met := set(0)
		for item := range s.each() {
			met |= meet[item]
		}
		if items&met == items&^s {
			found = append(found, s)
		}
		if s == 0 {
			return found
		}
	}
}

// A step gives a number to the items of a group.
type step struct {
	group  set
	number int
}

// choose gives each item a number from its list, and different ones to items that meet, if it can. Going from number to number it finds all sets of items that can have numbers so far, so its time is limited however many choices there are.
func choose(meet []set, lists [][]int) ([]int, bool) {
	all := single(len(meet)) - 1
	reached := make([]bool, all+1)
	reached[0] = true
	last := make([]step, all+1)
search:
	for number := range maxNumbers {
		groups := greatestGroups(holders(lists, number), meet)
		// What is less than s has been reached with the numbers before this one.
		for s := all; s > 0; s-- {
			if reached[s] {
				continue
			}
			at := slices.IndexFunc(groups, func(group set) bool { return reached[s&^group] })
			if at < 0 {
				continue
			}
			reached[s], last[s] = true, step{s & groups[at], number}
			if s == all {
				break search
			}
		}
	}
	if !reached[all] {
		return nil, false
	}
	return retrace(last, len(meet)), true
}

// retrace returns the numbers of all items, by the steps that came last.
func retrace(last []step, items int) []int {
	numbers := make([]int, items)
	for rest := single(items) - 1; rest != 0; {
		step := last[rest]
		for item := range step.group.each() {
			numbers[item] = step.number
		}
		rest &^= step.group
	}
	return numbers
}

// chromatic returns colours of the fewest different values, and how many these are.
func (g graph) chromatic() (int, []int) {
	var list []int
	for {
		list = append(list, len(list))
		lists := make([][]int, g.n)
		for v := range lists {
			lists[v] = list
		}
		if colours, ok := choose(g.near[:g.n], lists); ok {
			return len(list), colours
		}
	}
}
