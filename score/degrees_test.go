package score_test

import (
	"math"
	"math/rand"
	"slices"
	"testing"

	"forcola/api"
	"forcola/score"
)

// huge are numbers whose sums are outside the range of int.
var huge = []int{math.MinInt, math.MinInt + 1, -1 << 32, -1<<32 - 1, -1, 0, 1, 2, 15, 16, 1<<32 - 1, 1 << 32, math.MaxInt - 1, math.MaxInt}

// hugeLists yields random lists of at most most such numbers.
func hugeLists(seed int64, count, most int) [][]int {
	r := rand.New(rand.NewSource(seed))
	var lists [][]int
	for range count {
		l := make([]int, r.Intn(most+1))
		for i := range l {
			l[i] = huge[r.Intn(len(huge))]
		}
		lists = append(lists, l)
	}
	return lists
}

// checkRealize compares Realize to the definition, where it is known whether there is a realization.
func checkRealize(t *testing.T, l []int, want bool) {
	edges, ok, e := score.Realize(l)
	if ok != want || e != api.OK || ok && (!isGraph(len(l), edges) || !slices.Equal(degrees(len(l), edges), l)) || !ok && len(edges) != 0 {
		t.Errorf("Realize of %v: %v, %t, not %t, %d", l, edges, ok, want, e)
	}
	if ok && !score.IsRealization(l, edges) {
		t.Errorf("IsRealization of %v and %v", l, edges)
	}
}

// checkViolation compares Violation and IsViolation to the definition.
func checkViolation(t *testing.T, l []int) {
	want, is := least(l, violates)
	if k, ok, e := score.Violation(l); k != want || ok != is || e != api.OK {
		t.Errorf("Violation of %v: %d, %t, not %d, %t, %d", l, k, ok, want, is, e)
	}
	for k := -2; k <= len(l)+2; k++ {
		if is := score.IsViolation(l, k); is != violates(l, k) {
			t.Errorf("IsViolation of %v, %d: %t", l, k, is)
		}
	}
}

// P5.1: some lists of degrees.
func TestSomeDegrees(t *testing.T) {
	for _, x := range []struct {
		l         []int
		violation int
		edges     [][2]int
	}{
		{[]int{3, 3, 1, 1}, 2, nil}, {[]int{2, 2, 2}, -1, [][2]int{{0, 1}, {0, 2}, {1, 2}}}, {[]int{0}, -1, nil}, {[]int{0, 0, 0}, -1, nil}, {[]int{1, 1}, -1, [][2]int{{0, 1}}},
		{[]int{1}, 0, nil}, {[]int{2}, 1, nil}, {[]int{-1}, 0, nil}, {[]int{-2}, 0, nil}, {[]int{1, 2, 2}, 0, nil}, {[]int{1, -1}, 0, nil}, {[]int{0, 2, 0}, 1, nil}, {[]int{2, 2}, 1, nil}, {[]int{4, 4, 4, 1, 1}, 2, nil}, {[]int{4, 2, 4, 0, 4, 2}, 3, nil},
		{[]int{0, 1, 0, 1}, -1, [][2]int{{1, 3}}}, {[]int{1, 3, 1, 1}, -1, [][2]int{{0, 1}, {1, 2}, {1, 3}}}, {slices.Repeat([]int{15}, 16), -1, pairs(16)}, {slices.Repeat([]int{16}, 16), 1, nil}, {slices.Repeat([]int{0}, 16), -1, nil},
		{[]int{15, 1, 1, 1, 1, 1, 1, 1, 1, 1, 1, 1, 1, 1, 1, 1}, -1, pairs(16)[:15]}, {[]int{15, 1, 1, 1, 1, 1, 1, 1, 1, 1, 1, 1, 1, 1, 2, 0}, 1, nil}, {[]int{15, 15, 15, 1, 1, 1, 1, 1, 1, 1, 1, 1, 1, 1, 1, 1}, 2, nil},
	} {
		edges, ok, e := score.Realize(x.l)
		if !slices.Equal(edges, x.edges) || ok != (x.violation < 0) || e != api.OK {
			t.Errorf("Realize of %v: %v, %t, %d", x.l, edges, ok, e)
		}
		if k, ok, e := score.Violation(x.l); k != max(x.violation, 0) || ok != (x.violation >= 0) || e != api.OK {
			t.Errorf("Violation of %v: %d, %t, %d", x.l, k, ok, e)
		}
		checkViolation(t, x.l)
	}
}

// P5.1: lists of a wrong length, whatever the numbers in them.
func TestLengthsOfDegrees(t *testing.T) {
	for n := 0; n <= 40; n++ {
		want := api.OK
		if n == 0 {
			want = api.ErrArg
		} else if n > 16 {
			want = api.ErrLong
		}
		for _, number := range []int{0, 1, 3, -1, math.MaxInt, math.MinInt} {
			l := slices.Repeat([]int{number}, n)
			edges, ok, e := score.Realize(l)
			if e != want || e != api.OK && (len(edges) != 0 || ok) {
				t.Errorf("Realize of %d times %d: %v, %t, %d", n, number, edges, ok, e)
			}
			k, ok, e := score.Violation(l)
			if e != want || e != api.OK && (k != 0 || ok) {
				t.Errorf("Violation of %d times %d: %d, %t, %d", n, number, k, ok, e)
			}
			if want == api.OK {
				continue
			}
			for k := -1; k <= n+1; k++ {
				if score.IsViolation(l, k) {
					t.Errorf("IsViolation of %d times %d, %d", n, number, k)
				}
			}
		}
		if is := score.IsRealization(make([]int, n), nil); is != (want == api.OK) {
			t.Errorf("IsRealization of %d vertices: %t", n, is)
		}
	}
	if score.IsRealization(slices.Repeat([]int{1}, 18), [][2]int{{0, 1}, {2, 3}, {4, 5}, {6, 7}, {8, 9}, {10, 11}, {12, 13}, {14, 15}, {16, 17}}) || score.IsRealization(nil, [][2]int{{0, 1}}) {
		t.Error("IsRealization of lists of a wrong length")
	}
}

// P5.1, P5.5: a realization or a violation of all lists of few small numbers.
func TestErdosGallai(t *testing.T) {
	for n := 1; n <= 5; n++ {
		found := map[[5]int]bool{}
		key := func(l []int) (k [5]int) { copy(k[:], l); return k }
		for edges := range allGraphs(n) {
			found[key(degrees(n, edges))] = true
		}
		for l := range lists(n, -1, n+1) {
			checkRealize(t, l, found[key(l)])
			checkViolation(t, l)
			if _, ok, _ := score.Violation(l); ok == found[key(l)] {
				t.Errorf("Violation of %v: %t", l, ok)
			}
		}
	}
}

// P5.1, P5.5: lists of up to sixteen numbers, those of graphs, and those next to them.
func TestManyDegrees(t *testing.T) {
	r := rand.New(rand.NewSource(1))
	without := 0
	for range 3000 {
		n := 1 + r.Intn(16)
		tenths := r.Intn(11)
		var edges [][2]int
		for _, x := range pairs(n) {
			if r.Intn(10) < tenths {
				edges = append(edges, x)
			}
		}
		l := degrees(n, edges)
		checkRealize(t, l, true)
		checkViolation(t, l)
		for range 3 {
			l[r.Intn(n)] += 1 + r.Intn(3)
			l[r.Intn(n)] -= 1 + r.Intn(2)
			_, is := least(l, violates)
			checkRealize(t, l, !is)
			checkViolation(t, l)
			if is {
				without++
			}
		}
	}
	if without < 1000 {
		t.Errorf("%d lists without a realization are too few", without)
	}
	for range 3000 {
		l := make([]int, 1+r.Intn(16))
		for i := range l {
			l[i] = r.Intn(len(l))
		}
		_, is := least(l, violates)
		checkRealize(t, l, !is)
		checkViolation(t, l)
	}
}

// P5.1, R9, R10: sums are exact, whatever their size.
func TestHugeDegrees(t *testing.T) {
	for _, l := range append(hugeLists(2, 5000, 16), slices.Repeat([]int{math.MaxInt}, 16), slices.Repeat([]int{math.MinInt}, 16), []int{math.MaxInt, math.MaxInt}, []int{1 << 62, 1 << 62, 1 << 62, 1 << 62}, []int{math.MinInt, math.MinInt, 0, 0}, []int{math.MaxInt, math.MaxInt, math.MinInt, math.MinInt, 2}) {
		if len(l) == 0 {
			continue
		}
		_, is := least(l, violates)
		checkRealize(t, l, !is)
		checkViolation(t, l)
	}
	for _, k := range []int{math.MinInt, math.MaxInt, -1, 4, 1 << 32} {
		if score.IsViolation([]int{3, 3, 3}, k) {
			t.Errorf("IsViolation of %d", k)
		}
	}
}

// P5.1: the edges are those of a graph, and have the degrees.
func TestIsRealization(t *testing.T) {
	for _, x := range []struct {
		l     []int
		edges [][2]int
		want  bool
	}{
		{[]int{2, 2, 2}, [][2]int{{0, 1}, {0, 2}, {1, 2}}, true}, {[]int{2, 2, 2}, [][2]int{{0, 1}, {1, 2}, {0, 2}}, false}, {[]int{2, 2, 2}, [][2]int{{0, 1}, {0, 2}, {2, 1}}, false}, {[]int{2, 2, 2}, [][2]int{{0, 1}, {0, 2}}, false},
		{[]int{2, 2, 2}, [][2]int{{0, 0}, {1, 1}, {2, 2}}, false}, {[]int{2, 2}, [][2]int{{0, 1}, {0, 1}}, false}, {[]int{1, 1}, [][2]int{{0, 1}, {0, 1}}, false}, {[]int{1, 1}, [][2]int{{0, 1}}, true}, {[]int{1, 1}, [][2]int{{1, 0}}, false}, {[]int{1, 1}, nil, false},
		{[]int{1, 1, 0}, [][2]int{{0, 1}}, true}, {[]int{1, 0, 1}, [][2]int{{0, 1}}, false}, {[]int{1, 0}, [][2]int{{0, 1}}, false}, {[]int{1}, [][2]int{{0, 1}}, false}, {[]int{1, 0}, [][2]int{{0, 2}}, false}, {[]int{1, 0}, [][2]int{{-1, 0}}, false}, {[]int{2}, [][2]int{{0, 0}}, false}, {[]int{0}, nil, true}, {[]int{0}, [][2]int{{0, 0}}, false}, {[]int{0, 0}, [][2]int{}, true}, {[]int{-1}, nil, false},
		{[]int{1, 1}, [][2]int{{math.MinInt, math.MaxInt}}, false}, {[]int{1, 1}, [][2]int{{0, math.MaxInt}}, false}, {[]int{1, 1}, [][2]int{{math.MinInt, 1}}, false}, {[]int{math.MaxInt, math.MinInt}, nil, false}, {slices.Repeat([]int{15}, 16), pairs(16), true}, {slices.Repeat([]int{15}, 16), pairs(17), false}, {slices.Repeat([]int{15}, 16), append(pairs(16), [2]int{14, 15}), false}, {slices.Repeat([]int{14}, 16), pairs(16), false},
		{[]int{1, 1, 1, 1}, [][2]int{{0, 1}, {2, 3}}, true}, {[]int{1, 1, 1, 1}, [][2]int{{2, 3}, {0, 1}}, false}, {[]int{1, 1, 1, 1}, [][2]int{{0, 3}, {1, 2}}, true}, {[]int{2, 1, 1, 0}, [][2]int{{0, 2}, {0, 1}}, false},
	} {
		if is := score.IsRealization(x.l, x.edges); is != x.want {
			t.Errorf("IsRealization of %v, %v: %t", x.l, x.edges, is)
		}
	}
	for edges := range allGraphs(4) {
		for l := range lists(4, 0, 3) {
			if is := score.IsRealization(l, edges); is != slices.Equal(l, degrees(4, edges)) {
				t.Errorf("IsRealization of %v, %v: %t", l, edges, is)
			}
		}
	}
	// All lists of at most three pairs of numbers, of three vertices.
	for at := range lists(3, 0, 25) {
		var edges [][2]int
		for _, x := range at {
			if x < 25 {
				edges = append(edges, [2]int{x/5 - 1, x%5 - 1})
			}
		}
		want := isGraph(3, edges)
		l := []int{1, 1, 0}
		if want {
			l = degrees(3, edges)
		}
		if is := score.IsRealization(l, edges); is != want {
			t.Errorf("IsRealization of %v, %v: %t", l, edges, is)
		}
	}
}
