package score_test

import (
	"slices"
	"testing"

	"forcola/api"
	"forcola/score"
)

// example is the ring of three.
var example = [][]bool{{false, true, false}, {false, false, true}, {true, false, false}}

// notRegattas are tables that are none.
func notRegattas() [][][]bool {
	tables := [][][]bool{
		nil, {}, {{true}}, {nil}, {{}}, {{false, false}}, {{false, true}}, {{false}, {true}}, {{false, true}}, {{false, false}, {false, false}}, {{false, true}, {true, false}}, {{true, true}, {false, false}}, {{false, true}, {false, true}},
		{{false, true}, {false}}, {{false}, {false, false}}, {{false, true}, nil}, {{false, true, false}, {false, false, false}}, {{false, true}, {false, false}, {false, false}}, {{false, true}, {false, false}, nil}, {nil, nil, nil},
		lesserWins(13), lesserWins(14), wheel(13), lesserWins(40), make([][]bool, 2), make([][]bool, 12), make([][]bool, 13),
	}
	for _, n := range []int{3, 7, 12} {
		for _, x := range [][2]int{{0, 0}, {0, 1}, {1, 0}, {0, n - 1}, {n - 1, 0}, {n - 2, n - 1}, {n - 1, n - 2}, {n - 1, n - 1}} {
			t := wheel(n)
			t[x[0]][x[1]] = !t[x[0]][x[1]]
			tables = append(tables, t)
		}
		for _, length := range []int{0, n - 1, n + 1} {
			for at := range 2 {
				t := wheel(n)
				t[at*(n-1)] = append(slices.Clone(t[at*(n-1)]), false)[:length]
				tables = append(tables, t)
			}
		}
	}
	for n := 10; n <= 12; n++ {
		t := lesserWins(n)
		t[n-1][0] = true
		tables = append(tables, t)
	}
	return tables
}

// calls are all calls that take a regatta; they report whether all but the error is zero.
func calls(t [][]bool) map[string]func() (bool, api.Errno) {
	return map[string]func() (bool, api.Errno){
		"Check":   func() (bool, api.Errno) { return true, score.Check(t) },
		"Scores":  func() (bool, api.Errno) { l, e := score.Scores(t); return len(l) == 0, e },
		"Kings":   func() (bool, api.Errno) { l, e := score.Kings(t); return len(l) == 0, e },
		"Line":    func() (bool, api.Errno) { l, e := score.Line(t); return len(l) == 0, e },
		"Ring":    func() (bool, api.Errno) { l, ok, e := score.Ring(t); return len(l) == 0 && !ok, e },
		"Block":   func() (bool, api.Errno) { l, ok, e := score.Block(t); return len(l) == 0 && !ok, e },
		"Triples": func() (bool, api.Errno) { n, e := score.Triples(t); return n == 0, e },
		"Three":   func() (bool, api.Errno) { x, ok, e := score.Three(t); return x == [3]int{} && !ok, e },
		"Rank":    func() (bool, api.Errno) { l, n, e := score.Rank(t); return len(l) == 0 && n == 0, e },
	}
}

// P5.3: what is a regatta, and what is not; all functions return that first, and zero values next to it.
func TestCheck(t *testing.T) {
	for _, table := range notRegattas() {
		for name, call := range calls(table) {
			if zero, e := call(); !zero || e != api.ErrBeats {
				t.Errorf("%s of %v: %d, zero values %t", name, table, e, zero)
			}
		}
	}
	for n := 1; n <= 12; n++ {
		for _, table := range [][][]bool{lesserWins(n), wheel(n)} {
			if e := score.Check(table); e != api.OK {
				t.Errorf("Check of %v: %d", table, e)
			}
		}
	}
	// All tables of three boats.
	for set := range 1 << 9 {
		table := [][]bool{make([]bool, 3), make([]bool, 3), make([]bool, 3)}
		for _, at := range members(set) {
			table[at/3][at%3] = true
		}
		if e := score.Check(table); (e == api.OK) != isRegatta(table) || e != api.OK && e != api.ErrBeats {
			t.Errorf("Check of %v: %d", table, e)
		}
	}
}

// checkBoats compares the calls of P5.3 and P5.4, but for Rank, to the definitions.
func checkBoats(t *testing.T, table [][]bool, ring bool) {
	if l, e := score.Scores(table); !slices.Equal(l, scoresOf(table)) || e != api.OK {
		t.Errorf("Scores of %v: %v, %d", table, l, e)
	}
	if l, e := score.Kings(table); !slices.Equal(l, kingsOf(table)) || e != api.OK {
		t.Errorf("Kings of %v: %v, %d", table, l, e)
	}
	if l, e := score.Line(table); !isLine(table, l) || e != api.OK {
		t.Errorf("Line of %v: %v, %d", table, l, e)
	}
	if l, ok, e := score.Ring(table); ok != ring || ok && !isRing(table, l) || !ok && len(l) != 0 || e != api.OK {
		t.Errorf("Ring of %v: %v, %t, %d", table, l, ok, e)
	}
	var least []int
	blocks := blocksOf(table)
	if len(blocks) > 0 {
		least = slices.MinFunc(blocks, func(a, b []int) int { return len(a) - len(b) })
	}
	if l, ok, e := score.Block(table); !slices.Equal(l, least) || ok != (len(blocks) > 0) || e != api.OK {
		t.Errorf("Block of %v: %v, %t, %d", table, l, ok, e)
	}
	threes := rings(table)
	if n, e := score.Triples(table); n != len(threes) || e != api.OK {
		t.Errorf("Triples of %v: %d, not %d, %d", table, n, len(threes), e)
	}
	first := append(threes, [3]int{})[0]
	if x, ok, e := score.Three(table); x != first || ok != (len(threes) > 0) || e != api.OK {
		t.Errorf("Three of %v: %v, %t, not %v, %d", table, x, ok, first, e)
	}
}

// P5.3, P5.4: all regattas of few boats.
func TestAllRegattas(t *testing.T) {
	for n := 1; n <= 5; n++ {
		for table := range allRegattas(n) {
			checkBoats(t, table, hasRing(table))
		}
	}
	for table := range someRegattas(6, 150, 7) {
		checkBoats(t, table, hasRing(table))
	}
}

// P5.3, P5.4, P5.6: regattas of many boats, which have a ring just if there are three boats and no block.
func TestManyBoats(t *testing.T) {
	with := 0
	check := func(table [][]bool) {
		ring := len(table) >= 3 && len(blocksOf(table)) == 0
		checkBoats(t, table, ring)
		if ring {
			with++
		}
	}
	for table := range someRegattas(7, 400, 12) {
		check(table)
	}
	if with < 50 || with > 350 {
		t.Errorf("%d regattas with a ring", with)
	}
	for n := 1; n <= 12; n++ {
		check(lesserWins(n))
		check(wheel(n))
		// The greatest number beats the least one only, so the ring has no choice.
		table := lesserWins(n)
		for i := range n - 1 {
			table[i][i+1], table[i+1][i] = false, true
		}
		check(table)
	}
	// The last boat of twelve loses to all of a wheel, or beats all of it.
	for _, last := range []bool{false, true} {
		table := beating(12, func(i, j int) bool {
			if i == 11 || j == 11 {
				return (i == 11) == last
			}
			return wheel(11)[i][j]
		})
		check(table)
	}
}

// P5.3: the chapter's examples, and some others.
func TestSomeRegattas(t *testing.T) {
	if l, e := score.Kings(example); !slices.Equal(l, []int{0, 1, 2}) || e != api.OK {
		t.Errorf("Kings: %v, %d", l, e)
	}
	if l, ok, e := score.Ring(example); !ok || !isRing(example, l) || e != api.OK {
		t.Errorf("Ring: %v, %t, %d", l, ok, e)
	}
	if l, ok, e := score.Block(example); len(l) != 0 || ok || e != api.OK {
		t.Errorf("Block: %v, %t, %d", l, ok, e)
	}
	for n := 2; n <= 12; n++ {
		if l, ok, e := score.Block(lesserWins(n)); !slices.Equal(l, []int{0}) || !ok || e != api.OK {
			t.Errorf("Block of %d boats: %v, %t, %d", n, l, ok, e)
		}
	}
	one := [][]bool{{false}}
	for name, call := range map[string]func([][]bool) ([]int, api.Errno){"Scores": score.Scores, "Kings": score.Kings, "Line": score.Line} {
		if l, e := call(one); !slices.Equal(l, []int{0}) || e != api.OK {
			t.Errorf("%s of one boat: %v, %d", name, l, e)
		}
	}
	for _, small := range [][][]bool{one, lesserWins(2)} {
		if l, ok, e := score.Ring(small); len(l) != 0 || ok || e != api.OK {
			t.Errorf("Ring of %v: %v, %t, %d", small, l, ok, e)
		}
	}
	if l, ok, e := score.Block(one); len(l) != 0 || ok || e != api.OK {
		t.Errorf("Block of one boat: %v, %t, %d", l, ok, e)
	}
	// A ring of three, 1, 3 and 4, beats all others, of which 5 loses to all; 2 beats 0.
	table := beating(6, func(i, j int) bool {
		rank := []int{3, 0, 2, 0, 0, 4}
		return rank[i] < rank[j] || rank[i] == rank[j] && (i == 1 && j == 3 || i == 3 && j == 4 || i == 4 && j == 1)
	})
	checkBoats(t, table, false)
	if l, ok, e := score.Block(table); !slices.Equal(l, []int{1, 3, 4}) || !ok || e != api.OK {
		t.Errorf("Block: %v, %t, %d", l, ok, e)
	}
	if x, ok, e := score.Three(table); x != [3]int{1, 3, 4} || !ok || e != api.OK {
		t.Errorf("Three: %v, %t, %d", x, ok, e)
	}
}

// P5.6, P5.7: what follows for kings, lines, rings, blocks and threes, from the results alone.
func TestConsequences(t *testing.T) {
	check := func(table [][]bool) {
		n := len(table)
		scores, _ := score.Scores(table)
		kings, _ := score.Kings(table)
		_, ring, _ := score.Ring(table)
		_, block, _ := score.Block(table)
		count, _ := score.Triples(table)
		_, turning, _ := score.Three(table)
		if ring != (n >= 3 && !block) {
			t.Errorf("%v: ring %t, block %t", table, ring, block)
		}
		if len(kings) == 0 || len(kings) == 2 || (len(kings) == 1) != slices.Contains(scores, n-1) {
			t.Errorf("%v: kings %v, scores %v", table, kings, scores)
		}
		most := slices.Max(scores)
		want := n * (n - 1) * (n - 2) / 6
		for v, s := range scores {
			want -= s * (s - 1) / 2
			if s == most && !slices.Contains(kings, v) {
				t.Errorf("%v: kings %v, but not %d, which has %d wins", table, kings, v, s)
			}
		}
		if count != want || turning != (count > 0) {
			t.Errorf("%v: %d triples, not %d; three %t", table, count, want, turning)
		}
		slices.Sort(scores)
		if different := len(slices.Compact(scores)) == n; different == turning {
			t.Errorf("%v: scores all different %t, but three %t", table, different, turning)
		}
	}
	for n := 1; n <= 5; n++ {
		for table := range allRegattas(n) {
			check(table)
		}
	}
	for table := range someRegattas(8, 500, 12) {
		check(table)
	}
}
