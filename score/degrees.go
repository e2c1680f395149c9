package score

import (
	"slices"
)

// isViolation reports whether k is a violation of the list of degrees l.
func isViolation(l []int, k int) bool {
	if k < 0 || k > len(l) {
		return false
	}
	degrees := sorted(l, greatestFirst)
	if k == 0 {
		return isOdd(l) || degrees[len(l)-1] < 0
	}
	bound := []int{k * (k - 1)}
	for _, degree := range degrees[k:] {
		bound = append(bound, min(degree, k))
	}
	return compareSums(degrees[:k], bound) > 0
}

// isOdd reports whether the sum of l is odd.
func isOdd(l []int) bool {
	last := 0
	for _, number := range l {
		last ^= number & 1
	}
	return last == 1
}

// isRealization reports whether the edges are those of a graph with the degrees l.
func isRealization(l []int, edges [][2]int) bool {
	degrees := make([]int, len(l))
	for at, edge := range edges {
		i, j := edge[0], edge[1]
		if i < 0 || i >= j || j >= len(l) {
			return false
		}
		if at > 0 && compareEdges(edges[at-1], edge) >= 0 {
			return false
		}
		degrees[i]++
		degrees[j]++
	}
	return slices.Equal(degrees, l)
}

func compareEdges(a, b [2]int) int { return slices.Compare(a[:], b[:]) }

// realize returns a graph with the degrees l, and whether there is one. If there is, there is also one in which the vertex that needs most has its edges to those that need most after it (Havel and Hakimi).
func realize(l []int) ([][2]int, bool) {
	var edges [][2]int
	for left := needs(l); len(left) > 0; left = left[1:] {
		left = sorted(left, greatestNeedFirst)
		first := left[0]
		if first.lacks >= len(left) || left[len(left)-1].lacks < 0 {
			return nil, false
		}
		for i, other := range left[:first.lacks+1] {
			if other != first {
				left[i].lacks--
				edges = append(edges, edgeOf(first.owner, other.owner))
			}
		}
	}
	return sorted(edges, compareEdges), true
}

func edgeOf(v, w int) [2]int { return [2]int{min(v, w), max(v, w)} }
