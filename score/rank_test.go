package score_test

import (
	"fmt"
	"math/rand"
	"slices"
	"testing"

	"forcola/api"
	"forcola/score"
)

func checkRank(t *testing.T, table [][]bool) {
	want, fewest := ranked(table)
	if l, n, e := score.Rank(table); !slices.Equal(l, want) || n != fewest || e != api.OK {
		t.Errorf("Rank of %v: %v, %d, not %v, %d, %d", table, l, n, want, fewest, e)
	}
}

// P5.4: Rank, compared to all lists.
func TestRank(t *testing.T) {
	if l, n, e := score.Rank(example); !slices.Equal(l, []int{0, 1, 2}) || n != 1 || e != api.OK {
		t.Errorf("Rank: %v, %d, %d", l, n, e)
	}
	if l, n, e := score.Rank([][]bool{{false}}); !slices.Equal(l, []int{0}) || n != 0 || e != api.OK {
		t.Errorf("Rank of one boat: %v, %d, %d", l, n, e)
	}
	for n := 1; n <= 4; n++ {
		for table := range allRegattas(n) {
			checkRank(t, table)
		}
	}
	for table := range someRegattas(9, 300, 6) {
		checkRank(t, table)
	}
	for table := range someRegattas(10, 6, 8) {
		checkRank(t, table)
	}
	for n := 5; n <= 8; n++ {
		checkRank(t, wheel(n))
	}
}

// P5.4: Rank takes at most ten boats, which must be a regatta before.
func TestBoatsToRank(t *testing.T) {
	for n := 1; n <= 12; n++ {
		for _, table := range [][][]bool{lesserWins(n), wheel(n)} {
			l, upset, e := score.Rank(table)
			if n > 10 {
				if len(l) != 0 || upset != 0 || e != api.ErrLong {
					t.Errorf("Rank of %d boats: %v, %d, %d", n, l, upset, e)
				}
			} else if e != api.OK || len(l) != n || upset != upsets(table, l) {
				t.Errorf("Rank of %d boats: %v, %d, %d", n, l, upset, e)
			}
		}
	}
	for _, n := range []int{11, 12, 13} {
		table := lesserWins(n)
		table[0][1] = false
		if l, upset, e := score.Rank(table); len(l) != 0 || upset != 0 || e != api.ErrBeats {
			t.Errorf("Rank of %d boats that are none: %v, %d, %d", n, l, upset, e)
		}
	}
}

// P5.4: ten boats, of which up to three sets of three that follow each other beat each other in a ring.
func TestRankTen(t *testing.T) {
	order := []int{7, 2, 9, 0, 4, 1, 8, 5, 3, 6}
	for count := range 4 {
		table := renumbered(lesserWins(10), order)
		want := slices.Clone(order)
		// Each ring of three has one upset, and begins with its least boat: 7 to 2 to 9 to 7 with 2, 0 to 4 to 1 to 0 with 0, 8 to 5 to 3 to 8 with 3.
		for i := range count {
			table[order[3*i]][order[3*i+2]], table[order[3*i+2]][order[3*i]] = false, true
			copy(want[3*i:], [][]int{{2, 9, 7}, {0, 4, 1}, {3, 8, 5}}[i])
		}
		if l, n, e := score.Rank(table); !slices.Equal(l, want) || n != count || e != api.OK {
			t.Errorf("Rank of %v: %v, %d, not %v, %d, %d", table, l, n, want, count, e)
		}
	}
}

// P5.4: no list of up to ten boats that is near the ranked one has fewer upsets, or as many and comes before it.
func TestNearRank(t *testing.T) {
	for table := range someRegattas(11, 200, 10) {
		l, n, e := score.Rank(table)
		all := slices.Sorted(slices.Values(l))
		if e != api.OK || len(l) != len(table) || n != upsets(table, l) || len(slices.Compact(all)) != len(table) {
			t.Errorf("Rank of %v: %v, %d, %d", table, l, n, e)
			continue
		}
		for from := range l {
			for to := range l {
				other := slices.Delete(slices.Clone(l), from, from+1)
				other = slices.Insert(other, to, l[from])
				count := upsets(table, other)
				if count < n || count == n && slices.Compare(other, l) < 0 {
					t.Errorf("Rank of %v: %v, %d, but %v, %d", table, l, n, other, count)
				}
			}
		}
	}
}

// P5.7: a regatta is ordered just if its scores are all different, and then Rank has no upsets.
func TestOrdered(t *testing.T) {
	r := rand.New(rand.NewSource(12))
	for n := 1; n <= 10; n++ {
		for range 20 {
			order := r.Perm(n)
			table := renumbered(lesserWins(n), order)
			if l, upset, e := score.Rank(table); !slices.Equal(l, order) || upset != 0 || e != api.OK {
				t.Errorf("Rank of %v: %v, %d, not %v, %d", table, l, upset, order, e)
			}
		}
	}
	for n := 1; n <= 5; n++ {
		for table := range allRegattas(n) {
			_, turning, _ := score.Three(table)
			if _, upset, e := score.Rank(table); (upset == 0) == turning || e != api.OK {
				t.Errorf("Rank of %v: %d upsets, but three %t, %d", table, upset, turning, e)
			}
		}
	}
}

// P1 and R7: no call panics, and the same call has the same result.
func TestAnyTables(t *testing.T) {
	r := rand.New(rand.NewSource(13))
	text := func(table [][]bool) string {
		a, e := score.Line(table)
		b, is, f := score.Ring(table)
		c, has, g := score.Block(table)
		d, n, h := score.Rank(table)
		return fmt.Sprint(a, e, b, is, f, c, has, g, d, n, h)
	}
	for range 3000 {
		table := make([][]bool, r.Intn(5))
		for i := range table {
			table[i] = make([]bool, r.Intn(5))
			for j := range table[i] {
				table[i][j] = r.Intn(2) == 0
			}
		}
		if a, b := text(table), text(table); a != b {
			t.Errorf("%v: %s, then %s", table, a, b)
		}
	}
	for table := range someRegattas(14, 60, 12) {
		if a, b := text(table), text(clone(table)); a != b {
			t.Errorf("%v: %s, then %s", table, a, b)
		}
	}
}

// R4: arguments stay what they are, what is beyond their lengths is not read, and results are new.
func TestMemory(t *testing.T) {
	table := [][]bool{{false, true, false, true}, {false, false, true, true}, {true, false, false, true}, {true, true, true, true}}
	part := [][]bool{table[0][:3], table[1][:3], table[2][:3], table[3]}[:3]
	keep := clone(part)
	for name, call := range calls(part) {
		if _, e := call(); e != api.OK || fmt.Sprint(part) != fmt.Sprint(keep) {
			t.Errorf("%s: %d, %v", name, e, part)
		}
	}
	if !table[0][3] || !table[1][3] || !table[2][3] || fmt.Sprint(table[3]) != "[true true true true]" {
		t.Errorf("changed: %v", table)
	}
	l := []int{1, 2, 3, 2, 9}
	edges := [][2]int{{0, 2}, {1, 2}, {1, 3}, {2, 3}, {9, 9}}
	found, ok, e := score.Realize(l[:4])
	score.Violation(l[:4])
	score.IsViolation(l[:4], 1)
	if !ok || e != api.OK || !score.IsRealization(l[:4], edges[:4]) || fmt.Sprint(l, edges) != "[1 2 3 2 9] [[0 2] [1 2] [1 3] [2 3] [9 9]]" {
		t.Errorf("Realize: %v, %t, %d, %v, %v", found, ok, e, l, edges)
	}
	found[0] = [2]int{7, 7}
	if again, _, _ := score.Realize(l[:4]); !slices.Equal(again, edges[:4]) {
		t.Errorf("Realize again: %v", again)
	}
	s := []int{1, 0, 2, 9}
	rows, ok, e := score.Hold(s[:3])
	score.Short(s[:3])
	score.IsShort(s[:3], 2)
	if !ok || e != api.OK || !slices.Equal(s, []int{1, 0, 2, 9}) {
		t.Errorf("Hold: %v, %t, %d, %v", rows, ok, e, s)
	}
	// A row that grows does not reach into another one.
	before := fmt.Sprint(rows[1], rows[2])
	_ = append(rows[0], true, true, true)
	rows[0][0] = true
	if fmt.Sprint(rows[1], rows[2]) != before {
		t.Errorf("Hold: rows share memory: %v", rows)
	}
}
