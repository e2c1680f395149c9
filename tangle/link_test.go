package tangle_test

import (
	"math"
	"math/rand"
	"slices"
	"testing"

	"forcola/api"
	"forcola/tangle"
)

// checkLink compares all calls with that link alone to the definitions.
func checkLink(t *testing.T, x pair) {
	t.Helper()
	p, q := x[0], x[1]
	wanted := firstOf(x)
	if a, b, e := tangle.First(p, q); (pair{a, b}) != wanted || e != api.OK {
		t.Errorf("First of %v: %d, %d, %d, not %v", x, a, b, e, wanted)
	}
	if is, e := tangle.Mirrored(p, q); is != areSame(x, mirrorOf(x)) || e != api.OK {
		t.Errorf("Mirrored of %v: %t, %d", x, is, e)
	}
	l, e := tangle.Terms(p, q)
	if !areTerms(l) || linkOf(l) != x || e != api.OK {
		t.Errorf("Terms of %v: %v, %d", x, l, e)
	}
	if n, e := tangle.Crossings(p, q); n != sumOf(l) || e != api.OK {
		t.Errorf("Crossings of %v: %d, %d, not of %v", x, n, e, l)
	}
	before := slices.Clone(l)
	if a, b, e := tangle.FromTerms(l); (pair{a, b}) != x || e != api.OK || !slices.Equal(l, before) {
		t.Errorf("FromTerms of %v: %d, %d, %d, not %v", before, a, b, e, x)
	}
	if e := tangle.CheckLink(p, q); e != api.OK {
		t.Errorf("CheckLink of %v: %d", x, e)
	}
}

// checkSame compares Same to the definition, for two links.
func checkSame(t *testing.T, x, y pair) {
	t.Helper()
	if is, e := tangle.Same(x[0], x[1], y[0], y[1]); is != areSame(x, y) || e != api.OK {
		t.Errorf("Same of %v and %v: %t, %d", x, y, is, e)
	}
}

// checkNoLink expects ErrRatio of all calls with those numbers.
func checkNoLink(t *testing.T, x pair) {
	t.Helper()
	p, q := x[0], x[1]
	if e := tangle.CheckLink(p, q); e != api.ErrRatio {
		t.Errorf("CheckLink of %v: %d", x, e)
	}
	if a, b, e := tangle.First(p, q); a != 0 || b != 0 || e != api.ErrRatio {
		t.Errorf("First of %v: %d, %d, %d", x, a, b, e)
	}
	if is, e := tangle.Mirrored(p, q); is || e != api.ErrRatio {
		t.Errorf("Mirrored of %v: %t, %d", x, is, e)
	}
	if l, e := tangle.Terms(p, q); len(l) != 0 || e != api.ErrRatio {
		t.Errorf("Terms of %v: %v, %d", x, l, e)
	}
	if n, e := tangle.Crossings(p, q); n != 0 || e != api.ErrRatio {
		t.Errorf("Crossings of %v: %d, %d", x, n, e)
	}
	for _, y := range []pair{{1, 0}, {5, 2}, {1_000_000, 999_999}, x} {
		if is, e := tangle.Same(p, q, y[0], y[1]); is || e != api.ErrRatio {
			t.Errorf("Same of %v and %v: %t, %d", x, y, is, e)
		}
		if is, e := tangle.Same(y[0], y[1], p, q); is || e != api.ErrRatio {
			t.Errorf("Same of %v and %v: %t, %d", y, x, is, e)
		}
	}
}

// P6.2, P6.3: the chapter's examples, and other links by hand.
func TestSomeLinks(t *testing.T) {
	for _, x := range []struct {
		link, first pair
		mirrored    bool
		terms       []int64
	}{
		{pair{1, 0}, pair{1, 0}, true, nil}, {pair{2, 1}, pair{2, 1}, true, []int64{2}}, {pair{3, 1}, pair{3, 1}, false, []int64{3}}, {pair{3, 2}, pair{3, 2}, false, []int64{1, 2}}, {pair{4, 1}, pair{4, 1}, false, []int64{4}}, {pair{4, 3}, pair{4, 3}, false, []int64{1, 3}},
		{pair{5, 2}, pair{5, 2}, true, []int64{2, 2}}, {pair{5, 3}, pair{5, 2}, true, []int64{1, 1, 2}}, {pair{5, 4}, pair{5, 4}, false, []int64{1, 4}}, {pair{7, 2}, pair{7, 2}, false, []int64{3, 2}}, {pair{7, 4}, pair{7, 2}, false, []int64{1, 1, 3}}, {pair{7, 3}, pair{7, 3}, false, []int64{2, 3}}, {pair{7, 5}, pair{7, 3}, false, []int64{1, 2, 2}},
		{pair{8, 3}, pair{8, 3}, false, []int64{2, 1, 2}}, {pair{10, 3}, pair{10, 3}, true, []int64{3, 3}}, {pair{10, 7}, pair{10, 3}, true, []int64{1, 2, 3}}, {pair{17, 4}, pair{17, 4}, true, []int64{4, 4}}, {pair{17, 13}, pair{17, 4}, true, []int64{1, 3, 4}},
		{pair{1_000_000, 1}, pair{1_000_000, 1}, false, []int64{1_000_000}}, {pair{1_000_000, 999_999}, pair{1_000_000, 999_999}, false, []int64{1, 999_999}}, {pair{1_000_000, 333_333}, pair{1_000_000, 333_333}, false, []int64{3, 333_333}}, {pair{1_000_000, 666_667}, pair{1_000_000, 3}, false, []int64{1, 2, 333_333}},
		{pair{832_040, 514_229}, pair{832_040, 514_229}, false, append(slices.Repeat([]int64{1}, 27), 2)},
	} {
		p, q := x.link[0], x.link[1]
		if a, b, e := tangle.First(p, q); (pair{a, b}) != x.first || e != api.OK {
			t.Errorf("First of %v: %d, %d, %d", x.link, a, b, e)
		}
		if is, e := tangle.Mirrored(p, q); is != x.mirrored || e != api.OK {
			t.Errorf("Mirrored of %v: %t, %d", x.link, is, e)
		}
		if l, e := tangle.Terms(p, q); !slices.Equal(l, x.terms) || e != api.OK {
			t.Errorf("Terms of %v: %v, %d", x.link, l, e)
		}
		if n, e := tangle.Crossings(p, q); n != sumOf(x.terms) || e != api.OK {
			t.Errorf("Crossings of %v: %d, %d", x.link, n, e)
		}
		checkLink(t, x.link)
		checkSame(t, x.link, x.first)
		checkSame(t, x.link, mirrorOf(x.link))
	}
	for _, x := range []struct {
		x, y pair
		want bool
	}{{pair{5, 2}, pair{5, 3}, true}, {pair{7, 2}, pair{7, 4}, true}, {pair{3, 1}, pair{3, 2}, false}, {pair{1, 0}, pair{1, 0}, true}, {pair{5, 1}, pair{7, 1}, false}, {pair{5, 2}, pair{7, 2}, false}, {pair{1, 0}, pair{2, 1}, false}, {pair{1_000_000, 999_999}, pair{1_000_000, 1}, false}, {pair{999_999, 500_000}, pair{999_999, 2}, true}} {
		if is, e := tangle.Same(x.x[0], x.x[1], x.y[0], x.y[1]); is != x.want || e != api.OK {
			t.Errorf("Same of %v and %v: %t, %d", x.x, x.y, is, e)
		}
	}
}

// P6.2: numbers that are no link.
func TestNoLinks(t *testing.T) {
	for p := int64(-4); p <= 13; p++ {
		for q := int64(-4); q <= 14; q++ {
			if x := (pair{p, q}); isLink(x) {
				checkLink(t, x)
			} else {
				checkNoLink(t, x)
			}
		}
	}
	for _, x := range []pair{{0, 0}, {0, 1}, {1, 1}, {1, -1}, {-1, 0}, {2, 0}, {2, 2}, {3, -1}, {5, 6}, {6, 4}, {-5, 2}, {1_000_000, 2}, {1_000_000, 0}, {1_000_000, 1_000_000}, {1_000_000, 1_000_001}, {1_000_001, 0}, {1_000_001, 1}, {1_000_001, 1_000_000}, {1_000_003, 2}} {
		checkNoLink(t, x)
	}
	for _, number := range extremes {
		for _, other := range append([]int64{-1, 0, 1, 2, 3, 999_999, 1_000_000}, extremes...) {
			checkNoLink(t, pair{number, other})
			checkNoLink(t, pair{other, number})
		}
	}
}

// P6.2, P6.7: all links with a small p, and all pairs of them.
func TestSchubert(t *testing.T) {
	links := slices.Collect(linksUpTo(45))
	for _, x := range links {
		checkLink(t, x)
		checkSchubert(t, x)
		for _, y := range links {
			checkSame(t, x, y)
			if is, _ := tangle.Same(x[0], x[1], y[0], y[1]); is {
				a, _ := tangle.Crossings(x[0], x[1])
				b, _ := tangle.Crossings(y[0], y[1])
				if a != b {
					t.Errorf("%v and %v are the same, with %d and %d crossings", x, y, a, b)
				}
			}
		}
	}
}

// checkSchubert checks what follows for the link, its mirror image and its first one from the results alone.
func checkSchubert(t *testing.T, x pair) {
	t.Helper()
	mirror := mirrorOf(x)
	n, _ := tangle.Crossings(x[0], x[1])
	if other, _ := tangle.Crossings(mirror[0], mirror[1]); other != n {
		t.Errorf("%v has %d crossings, its mirror image %d", x, n, other)
	}
	p, q, _ := tangle.First(x[0], x[1])
	if other, _ := tangle.Crossings(p, q); other != n {
		t.Errorf("%v has %d crossings, its first one %d", x, n, other)
	}
	if is, e := tangle.Same(x[0], x[1], p, q); !is || e != api.OK {
		t.Errorf("%v and its first one: %t, %d", x, is, e)
	}
	want := x[0] <= 2 || x[1]*x[1]%x[0] == x[0]-1
	if is, e := tangle.Mirrored(x[0], x[1]); is != want || e != api.OK {
		t.Errorf("Mirrored of %v: %t, %d", x, is, e)
	}
}

// P6.2, P6.3, P6.7: random links of any p.
func TestManyLinks(t *testing.T) {
	r := rand.New(rand.NewSource(3))
	for at := range 4000 {
		most := int64(3000)
		if at%20 == 0 {
			most = 1_000_000
		}
		x := someLink(r, most)
		checkLink(t, x)
		checkSchubert(t, x)
		checkSame(t, x, someLink(r, most))
		for q := range int64(50) {
			if y := (pair{x[0], q}); isLink(y) {
				checkSame(t, x, y)
			}
		}
		checkSame(t, x, firstOf(x))
		checkSame(t, firstOf(x), x)
	}
}

// checkFromTerms compares FromTerms to the definition.
func checkFromTerms(t *testing.T, l []int64) {
	t.Helper()
	want, wantError := pair{}, api.ErrArg
	if len(l) > 60 {
		wantError = api.ErrLong
	} else if areTerms(l) && isLink(linkOf(l)) {
		want, wantError = linkOf(l), api.OK
	}
	before := slices.Clone(l)
	if p, q, e := tangle.FromTerms(l); (pair{p, q}) != want || e != wantError || !slices.Equal(l, before) {
		t.Errorf("FromTerms of %v: %d, %d, %d, not %v, %d", before, p, q, e, want, wantError)
	}
}

// P6.3: terms, and lists that are none.
func TestSomeTerms(t *testing.T) {
	ones := func(n int, last ...int64) []int64 { return append(slices.Repeat([]int64{1}, n), last...) }
	for _, x := range []struct {
		l    []int64
		p, q int64
		want api.Errno
	}{
		{nil, 1, 0, api.OK}, {[]int64{}, 1, 0, api.OK}, {[]int64{2}, 2, 1, api.OK}, {[]int64{3, 2}, 7, 2, api.OK}, {[]int64{2, 3}, 7, 3, api.OK}, {[]int64{1, 2}, 3, 2, api.OK}, {[]int64{1_000_000}, 1_000_000, 1, api.OK}, {[]int64{1, 999_999}, 1_000_000, 999_999, api.OK}, {[]int64{499_999, 2}, 999_999, 2, api.OK}, {ones(27, 2), 832_040, 514_229, api.OK}, {[]int64{1000, 999}, 999_001, 999, api.OK},
		{[]int64{1}, 0, 0, api.ErrArg}, {[]int64{2, 1}, 0, 0, api.ErrArg}, {[]int64{0}, 0, 0, api.ErrArg}, {[]int64{-1}, 0, 0, api.ErrArg}, {[]int64{-2}, 0, 0, api.ErrArg}, {[]int64{0, 2}, 0, 0, api.ErrArg}, {[]int64{2, 0}, 0, 0, api.ErrArg}, {[]int64{2, 0, 2}, 0, 0, api.ErrArg}, {[]int64{-1, 2}, 0, 0, api.ErrArg}, {[]int64{3, -1, 2}, 0, 0, api.ErrArg}, {[]int64{2, -2}, 0, 0, api.ErrArg},
		{[]int64{1_000_001}, 0, 0, api.ErrArg}, {[]int64{1, 1_000_000}, 0, 0, api.ErrArg}, {[]int64{500_000, 2}, 0, 0, api.ErrArg}, {[]int64{1000, 1000}, 0, 0, api.ErrArg}, {ones(28, 2), 0, 0, api.ErrArg}, {ones(59, 2), 0, 0, api.ErrArg}, {ones(60), 0, 0, api.ErrArg}, {slices.Repeat([]int64{2}, 60), 0, 0, api.ErrArg}, {slices.Repeat([]int64{0}, 60), 0, 0, api.ErrArg},
		{ones(60, 2), 0, 0, api.ErrLong}, {ones(61), 0, 0, api.ErrLong}, {slices.Repeat([]int64{0}, 61), 0, 0, api.ErrLong}, {slices.Repeat([]int64{math.MaxInt64}, 62), 0, 0, api.ErrLong}, {ones(100_000, 2), 0, 0, api.ErrLong},
		{slices.Repeat([]int64{math.MaxInt64}, 60), 0, 0, api.ErrArg}, {[]int64{math.MinInt64}, 0, 0, api.ErrArg}, {[]int64{math.MaxInt64}, 0, 0, api.ErrArg}, {[]int64{math.MaxInt64, 2}, 0, 0, api.ErrArg}, {[]int64{2, math.MaxInt64}, 0, 0, api.ErrArg}, {[]int64{1 << 32, 1 << 32}, 0, 0, api.ErrArg}, {[]int64{1 << 63 / 3, 3}, 0, 0, api.ErrArg}, {[]int64{1 << 61, 8}, 0, 0, api.ErrArg}, {[]int64{math.MinInt64, 2}, 0, 0, api.ErrArg}, {[]int64{2, math.MinInt64}, 0, 0, api.ErrArg},
	} {
		if p, q, e := tangle.FromTerms(x.l); p != x.p || q != x.q || e != x.want {
			t.Errorf("FromTerms of %v: %d, %d, %d", x.l, p, q, e)
		}
		checkFromTerms(t, x.l)
	}
}

// P6.3: random lists, with and without numbers that are no terms.
func TestManyTerms(t *testing.T) {
	r := rand.New(rand.NewSource(4))
	numbers := append([]int64{-1, 0, 1, 1, 2, 2, 3, 10, 499, 500, 999_999, 1_000_000, 1_000_001}, extremes...)
	right := 0
	for range 20000 {
		l := make([]int64, r.Intn(14))
		for i := range l {
			l[i] = 1 + r.Int63n(1+r.Int63n(12))
			if r.Intn(25) == 0 {
				l[i] = numbers[r.Intn(len(numbers))]
			}
		}
		checkFromTerms(t, l)
		if _, _, e := tangle.FromTerms(l); e == api.OK {
			right++
		}
	}
	if right < 5000 || right > 15000 {
		t.Errorf("%d lists of terms are too few or too many", right)
	}
	for a := int64(-1); a <= 5; a++ {
		checkFromTerms(t, []int64{a})
		for b := int64(-1); b <= 5; b++ {
			checkFromTerms(t, []int64{a, b})
			for c := int64(-1); c <= 5; c++ {
				checkFromTerms(t, []int64{a, b, c})
			}
		}
	}
	for a := int64(990); a <= 1010; a++ {
		for b := int64(990); b <= 1010; b++ {
			checkFromTerms(t, []int64{a, b})
			checkFromTerms(t, []int64{a, b, 1})
		}
	}
}

// R4: results are new memory each time.
func TestMemoryOfLinks(t *testing.T) {
	l, _ := tangle.Terms(30, 13)
	other, _ := tangle.Terms(30, 13)
	l[0], l[1] = 77, 78
	if again, _ := tangle.Terms(30, 13); !slices.Equal(again, other) || linkOf(other) != (pair{30, 13}) {
		t.Errorf("Terms: %v, %v", other, again)
	}
	links, _ := tangle.Links(7)
	more, _ := tangle.Links(7)
	links[0] = [2]int64{77, 78}
	if again, _ := tangle.Links(7); !slices.Equal(again, more) || len(again) == 0 {
		t.Errorf("Links: %v, %v", more, again)
	}
	backing := []int64{9, 3, 2, 1, -1}
	if p, q, e := tangle.FromTerms(backing[1:3]); p != 7 || q != 2 || e != api.OK || !slices.Equal(backing, []int64{9, 3, 2, 1, -1}) {
		t.Errorf("FromTerms of a part: %d, %d, %d, %v", p, q, e, backing)
	}
}
