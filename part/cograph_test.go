package part_test

import (
	"math/rand"
	"slices"
	"strings"
	"testing"

	"forcola/api"
	"forcola/part"
)

// checkPath compares Path to the definition.
func checkPath(t *testing.T, p picture) {
	x, ok, e := part.Path(p.n, p.edges())
	if e != api.OK || ok != p.hasPath() || ok && !p.isPath(x) || !ok && x != [4]int{} {
		t.Errorf("Path of %d, %v: %v, %t, %d", p.n, p.edges(), x, ok, e)
	}
}

// P4.3: paths of four.
func TestPath(t *testing.T) {
	for n := 1; n <= 5; n++ {
		for p := range allGraphs(n) {
			checkPath(t, p)
		}
	}
	for p := range someGraphs(7, 300, 16) {
		checkPath(t, p)
	}
	if x, ok, e := part.Path(4, path(4)); x != [4]int{0, 1, 2, 3} && x != [4]int{3, 2, 1, 0} || !ok || e != api.OK {
		t.Errorf("Path: %v, %t, %d", x, ok, e)
	}
	// Only one path, of vertices far apart.
	for _, order := range [][]int{{15, 0, 7, 3}, {3, 15, 0, 7}, {0, 3, 7, 15}, {12, 15, 14, 13}, {2, 0, 3, 1}} {
		p := picture{n: 16}
		for i := range 3 {
			p.edge[order[i]][order[i+1]], p.edge[order[i+1]][order[i]] = true, true
		}
		checkPath(t, p)
		checkPath(t, p.complement())
	}
}

// P4.3: some shapes.
func TestShape(t *testing.T) {
	for _, x := range []struct {
		n     int
		edges [][2]int
		want  string
	}{
		{1, nil, "v"}, {2, nil, "u(vv)"}, {2, path(2), "j(vv)"}, {3, nil, "u(vvv)"}, {3, complete(3), "j(vvv)"},
		{3, [][2]int{{0, 1}, {0, 2}}, "j(u(vv)v)"}, {3, [][2]int{{0, 1}}, "u(j(vv)v)"}, {3, [][2]int{{1, 2}}, "u(j(vv)v)"},
		{4, [][2]int{{0, 1}, {2, 3}}, "u(j(vv)j(vv))"}, {4, [][2]int{{0, 1}, {0, 3}, {1, 2}, {2, 3}}, "j(u(vv)u(vv))"}, {4, [][2]int{{0, 1}, {0, 2}, {0, 3}}, "j(u(vvv)v)"},
		{4, [][2]int{{0, 1}, {0, 2}, {0, 3}, {1, 2}}, "j(u(j(vv)v)v)"},
		{5, [][2]int{{0, 1}, {2, 3}, {2, 4}}, "u(j(u(vv)v)j(vv))"}, // j(u comes before j(v
		{16, nil, "u(" + strings.Repeat("v", 16) + ")"}, {16, complete(16), "j(" + strings.Repeat("v", 16) + ")"},
	} {
		if s, e := part.Shape(x.n, x.edges); s != x.want || e != api.OK {
			t.Errorf("Shape of %d, %v: %q, %d", x.n, x.edges, s, e)
		}
	}
	ring := [][2]int{{0, 1}, {0, 4}, {1, 2}, {2, 3}, {3, 4}}
	for _, p := range []picture{draw(4, path(4)), draw(5, path(4)), draw(5, ring), draw(16, path(16)), draw(16, [][2]int{{12, 13}, {13, 14}, {14, 15}}), draw(16, path(4)).complement()} {
		if s, e := part.Shape(p.n, p.edges()); s != "" || e != api.ErrCograph {
			t.Errorf("Shape of %d, %v: %q, %d", p.n, p.edges(), s, e)
		}
		if x, l, e := part.Clique(p.n, p.edges()); x != 0 || len(l) != 0 || e != api.ErrCograph {
			t.Errorf("Clique of %d, %v: %d, %v, %d", p.n, p.edges(), x, l, e)
		}
	}
}

// shapeOf is the shape by its definition, and whether there is one.
func shapeOf(p picture) (string, bool) {
	if p.n == 1 {
		return "v", true
	}
	letter := "u"
	if p.isConnected() {
		if p.complement().isConnected() {
			return "", false
		}
		letter = "j"
	}
	var l []string
	for _, m := range p.parts() {
		s, ok := shapeOf(p.within(members(m)))
		if !ok {
			return "", false
		}
		l = append(l, s)
	}
	slices.Sort(l)
	return letter + "(" + strings.Join(l, "") + ")", true
}

// P4.3, P4.6: a graph has a shape just if it has no path of four.
func TestSeinsche(t *testing.T) {
	check := func(p picture) {
		want, is := shapeOf(p)
		s, e := part.Shape(p.n, p.edges())
		if s != want || (e == api.OK) != is || e != api.OK && e != api.ErrCograph {
			t.Errorf("Shape of %d, %v: %q, not %q, %d", p.n, p.edges(), s, want, e)
		}
		if _, ok, f := part.Path(p.n, p.edges()); ok != (e == api.ErrCograph) || f != api.OK {
			t.Errorf("Shape of %d, %v: %q, %d, but Path: %t, %d", p.n, p.edges(), s, e, ok, f)
		}
	}
	for n := 1; n <= 5; n++ {
		for p := range allGraphs(n) {
			check(p)
		}
	}
	for p := range someGraphs(8, 200, 8) {
		check(p)
	}
}

// P4.6: shapes are the same just if graphs are, but for their numbers; there are as many shapes as there are cographs.
func TestSameShapes(t *testing.T) {
	counts := []int{0, 1, 2, 4, 10, 24}
	for n := 1; n <= 5; n++ {
		names, shapes := map[string]string{}, map[string]string{}
		for p := range allGraphs(n) {
			s, e := part.Shape(n, p.edges())
			if e != api.OK {
				continue
			}
			name := p.name()
			if names[s] != "" && names[s] != name || shapes[name] != "" && shapes[name] != s {
				t.Errorf("Shape of %d, %v: %q: %q and %q", n, p.edges(), s, names[s], shapes[name])
			}
			names[s], shapes[name] = name, s
		}
		if len(names) != counts[n] {
			t.Errorf("%d vertices: %d shapes, not %d", n, len(names), counts[n])
		}
	}
	r := rand.New(rand.NewSource(9))
	for p := range someGraphs(10, 300, 16) {
		s, e := part.Shape(p.n, p.edges())
		again, f := part.Shape(p.n, p.renumbered(r.Perm(p.n)).edges())
		if s != again || e != f {
			t.Errorf("Shape of %d, %v: %q, %d, but renumbered %q, %d", p.n, p.edges(), s, e, again, f)
		}
	}
}

// P4.3: what is the shape of a cograph, and of which one.
func TestFromShape(t *testing.T) {
	for _, x := range []struct {
		s    string
		n    int
		want [][2]int
	}{
		{"v", 1, nil}, {"u(vv)", 2, nil}, {"j(vv)", 2, path(2)}, {"u(j(vv)v)", 3, path(2)}, {"j(u(vv)v)", 3, [][2]int{{0, 2}, {1, 2}}}, {"j(vvvv)", 4, complete(4)},
		{"u(j(vv)j(vv))", 4, [][2]int{{0, 1}, {2, 3}}}, {"j(u(vv)u(vv))", 4, [][2]int{{0, 2}, {0, 3}, {1, 2}, {1, 3}}}, {"j(u(j(vv)v)v)", 4, [][2]int{{0, 1}, {0, 3}, {1, 3}, {2, 3}}},
		{"u(j(u(vv)v)j(vv))", 5, [][2]int{{0, 2}, {1, 2}, {3, 4}}},
		{"u(" + strings.Repeat("v", 16) + ")", 16, nil}, {"j(" + strings.Repeat("v", 16) + ")", 16, complete(16)},
	} {
		if n, l, e := part.FromShape(x.s); n != x.n || !slices.Equal(l, x.want) || e != api.OK {
			t.Errorf("FromShape of %q: %d, %v, %d", x.s, n, l, e)
		}
	}
	for _, s := range []string{
		"", "w", "V", "u", "j", "(", ")", "()", "(v)", "u()", "j()", "u(v)", "j(v)", "vv", "u(vv", "u vv", "uvv)", "u(vv))", "u(vv)v", "u[vv]", " v", "v ", "v\n", "u(v v)", "u(v,v)", "v\x00", "\xff", "u(v\xff)",
		"u(vj(vv))", "j(vu(vv))", "u(u(vv)v)", "j(j(vv)v)", "u(u(vv)u(vv))", "u(j(v)v)", "u(j()v)", "u(u()v)", "u(j(vv)u(vv))", "u(j(vv)j(u(vv)v))", "u(j(vu(vv))v)", "j(u(j(vv)v)vu(vv))", "u(j(vv)v", "u(j(vvv)", "u(xx)", "p(vvvv)", "U(vv)",
		"u(" + strings.Repeat("v", 17) + ")", "j(" + strings.Repeat("v", 97) + ")", strings.Repeat("u(", 50), strings.Repeat("j(u(", 25), strings.Repeat("v", 100), strings.Repeat("(", 100), strings.Repeat("u(v", 33) + "v",
	} {
		if n, l, e := part.FromShape(s); n != 0 || len(l) != 0 || e != api.ErrArg {
			t.Errorf("FromShape of %q: %d, %v, %d", s, n, l, e)
		}
	}
	for _, s := range []string{strings.Repeat("v", 101), "u(" + strings.Repeat("v", 98) + ")", strings.Repeat("u(", 5000), strings.Repeat(" ", 101), "v" + strings.Repeat("\x00", 100)} {
		if n, l, e := part.FromShape(s); n != 0 || len(l) != 0 || e != api.ErrLong {
			t.Errorf("FromShape of %d bytes: %d, %v, %d", len(s), n, l, e)
		}
	}
}

// P4.3: of all short strings those are shapes that some graph has.
func TestAllShortShapes(t *testing.T) {
	shapes := map[string]bool{}
	for n := 1; n <= 5; n++ {
		for p := range allGraphs(n) {
			if s, ok := shapeOf(p); ok {
				shapes[s] = true
			}
		}
	}
	var extend func(s string)
	extend = func(s string) {
		n, l, e := part.FromShape(s)
		if (e == api.OK) != shapes[s] || e != api.OK && (e != api.ErrArg || n != 0 || len(l) != 0) {
			t.Errorf("FromShape of %q: %d, %v, %d", s, n, l, e)
		}
		if len(s) < 8 {
			for _, c := range "uvj()" {
				extend(s + string(c))
			}
		}
	}
	extend("")
	for s := range shapes {
		if _, _, e := part.FromShape(s); e != api.OK {
			t.Errorf("FromShape of %q: %d", s, e)
		}
	}
}

// plainShape is the tree as it is, without ordering its parts.
func plainShape(x part.Tree) string {
	if x.Kind == part.Leaf {
		return "v"
	}
	s := []string{"", "u(", "j(", "p("}[x.Kind]
	for _, y := range x.Parts {
		s += plainShape(y)
	}
	return s + ")"
}

// P4.3: the vertices are the letters from left to right, so the graph's tree has the very form of the string.
func TestThereAndBack(t *testing.T) {
	found := 0
	for p := range someGraphs(11, 1500, 16) {
		s, e := part.Shape(p.n, p.edges())
		if e != api.OK {
			continue
		}
		found++
		n, l, e := part.FromShape(s)
		again, f := part.Shape(n, l)
		if n != p.n || again != s || e != api.OK || f != api.OK {
			t.Errorf("FromShape of %q: %d, %v, %d, and back %q, %d", s, n, l, e, again, f)
		}
		x, e := part.Split(n, l)
		if plainShape(x) != s || e != api.OK {
			t.Errorf("FromShape of %q: %d, %v: its tree %s, %d", s, n, l, plainShape(x), e)
		}
	}
	if found < 100 {
		t.Errorf("%d cographs are too few", found)
	}
	// The deepest shape of sixteen vertices.
	s := "j(vv)"
	for i := range 14 {
		s = []string{"u(", "j("}[i%2] + s + "v)"
	}
	n, l, e := part.FromShape(s)
	if again, f := part.Shape(n, l); n != 16 || again != s || e != api.OK || f != api.OK {
		t.Errorf("FromShape of %q: %d, %v, %d, and back %q, %d", s, n, l, e, again, f)
	}
	if n, l, e := part.FromShape("u(" + s + "v)"); n != 0 || len(l) != 0 || e != api.ErrArg {
		t.Errorf("FromShape of seventeen vertices: %d, %v, %d", n, l, e)
	}
}

// values is the number of different ones.
func values(l []int) int {
	return len(slices.Compact(slices.Sorted(slices.Values(l))))
}

// P4.4: a clique and colours, which are checked by their definitions.
func TestClique(t *testing.T) {
	check := func(p picture) {
		_, is := shapeOf(p)
		x, l, e := part.Clique(p.n, p.edges())
		if !is {
			if x != 0 || len(l) != 0 || e != api.ErrCograph {
				t.Errorf("Clique of %d, %v: %d, %v, %d", p.n, p.edges(), x, l, e)
			}
			return
		}
		size := len(members(x))
		if e != api.OK || !p.isClique(x) || size != p.greatestClique() || !p.areColours(l) || values(l) != size {
			t.Errorf("Clique of %d, %v: %d, %v, %d", p.n, p.edges(), x, l, e)
		}
	}
	for n := 1; n <= 5; n++ {
		for p := range allGraphs(n) {
			check(p)
		}
	}
	for p := range someGraphs(12, 300, 9) {
		check(p)
	}
	if x, l, e := part.Clique(3, [][2]int{{0, 1}, {0, 2}}); x != 3 && x != 5 || len(l) != 3 || e != api.OK {
		t.Errorf("Clique: %d, %v, %d", x, l, e)
	}
	for _, p := range []picture{draw(16, nil), draw(16, complete(16)), draw(16, [][2]int{{3, 15}, {4, 14}}), draw(1, nil)} {
		check(p)
	}
}

// P4.7: the greatest clique has as many vertices as there must be colours.
func TestLovasz(t *testing.T) {
	for n := 1; n <= 5; n++ {
		for p := range allGraphs(n) {
			x, l, e := part.Clique(n, p.edges())
			least := p.leastColours()
			if e == api.OK && (len(members(x)) != least || values(l) != least) {
				t.Errorf("Clique of %d, %v: %d, %v, not %d colours", n, p.edges(), x, l, least)
			}
		}
	}
}
