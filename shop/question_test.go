package shop_test

import (
	"strconv"
	"strings"
	"testing"

	"forcola/shop"
)

// quarrels are lines for the edges, each two digits.
func quarrels(edges ...string) []string {
	var l []string
	for _, e := range edges {
		l = append(l, "quarrel "+e[:1]+" "+e[1:])
	}
	return l
}

// complete are lines for all edges of the first n passengers.
func complete(n int) []string {
	var l []string
	for b := range n {
		for a := range b {
			l = append(l, "quarrel "+strconv.Itoa(a)+" "+strconv.Itoa(b))
		}
	}
	return l
}

// P11.1: least, trips, hues and apart. All eight passengers cross, also those without a quarrel.
func TestPassengers(t *testing.T) {
	for _, x := range []struct {
		lines []string
		want  talk
	}{
		{nil, talk{"least", "least 1", "trips 0", "trips none", "trips 1", "trips 15", "trips 2", "trips 7", "trips 3", "trips 5", "trips 4", "trips 3", "trips 7", "trips 3", "trips 8", "trips 1", "trips 10", "trips 1", "hues", "hues 0", "apart", "apart u(vvvvvvvv)"}},
		{quarrels("01", "12"), talk{"least", "least 1", "trips 0", "trips none", "trips 1", "trips 17", "hues", "hues 2", "apart", "apart u(j(u(vv)v)vvvvv)"}},
		{quarrels("01", "02", "03"), talk{"least", "least 2", "trips 1", "trips none", "hues", "hues 3", "apart", "apart u(j(u(vvv)v)vvvv)"}},
		{quarrels("70", "71", "72", "73", "74", "75", "76"), talk{"least", "least 2", "trips 1", "trips none", "hues", "hues 7", "apart", "apart j(u(vvvvvvv)v)"}},
		{quarrels("01", "12", "23"), talk{"hues", "hues 2", "apart", "apart no"}},
		{quarrels("01", "12", "02"), talk{"least", "least 2", "hues", "hues 3", "apart", "apart u(j(vvv)vvvvv)"}},
		{quarrels("01", "12", "23", "34", "04"), talk{"hues", "hues 3", "apart", "apart no"}},
		{complete(8), talk{"least", "least 7", "trips 6", "trips none", "trips 7", "trips 3", "trips 8", "trips 1", "hues", "hues 7", "apart", "apart j(vvvvvvvv)"}},
		{complete(7), talk{"least", "least 6", "trips 5", "trips none", "hues", "hues 7", "apart", "apart u(j(vvvvvvv)v)"}},
	} {
		x.want.check(t, told(t, x.lines...))
	}
	talk{"trips -1", "error 1", "trips 11", "error 1", "trips 1000000", "error 1", "trips -1000000", "error 1"}.check(t, told(t, complete(8)...))
}

// P11.1: trees, and what chapter 3 returns otherwise.
func TestTrees(t *testing.T) {
	letters := func(n int) string { return "trees " + strings.Repeat("a", n) }
	talk{"trees a", "error 30", "trees A", "error 30", letters(25), "error 30"}.check(t, shop.New())
	talk{
		"trees a", "trees 1", "trees aa", "trees 1", "trees aaa", "trees 2", "trees aaaa", "trees 5", "trees b", "trees 0", letters(24), "trees 343059613650",
		"trees A", "error 1", "trees a1", "error 1", "trees \xff", "error 1", "trees -", "error 1", letters(25), "error 1",
	}.check(t, told(t, "rule S=SS", "rule S=a"))
	talk{letters(24), "error 2", letters(2), "trees 4"}.check(t, told(t, "rule S=SS", "rule S=a", "rule S=A", "rule A=a"))
	talk{"trees a", "error 31", "trees b", "trees 0"}.check(t, told(t, "rule S=S", "rule S=a"))
}

// P11.1: value and knot, and what chapter 6 returns otherwise.
func TestFractions(t *testing.T) {
	for _, x := range []struct{ rope, value, knot string }{
		{"t", "value 1 1", "knot 1 0"},
		{"T", "value -1 1", "knot 1 0"},
		{"tT", "value 0 1", "error 4"},
		{"r", "value 1 0", "knot 1 0"},
		{"rr", "value 0 1", "error 4"},
		{"rttT", "value 1 0", "knot 1 0"},
		{"ttt", "value 3 1", "knot 3 1"},
		{"TTT", "value -3 1", "knot 3 2"},
		{"tttr", "value -1 3", "knot 1 0"},
		{"tttrT", "value -4 3", "knot 4 1"},
		{"tttrtt", "value 5 3", "knot 5 2"},
		{"ttrtttt", "value 7 2", "knot 7 2"},
		{"tttttttrtt", "value 13 7", "knot 13 2"},
		{strings.Repeat("t", 500), "value 500 1", "knot 500 1"},
		{strings.Repeat("t", 501), "value 501 1", "error 1"},
		{strings.Repeat("T", 501), "value -501 1", "error 1"},
		{strings.Repeat("t", 501) + "r", "value -1 501", "error 1"},
	} {
		talk{"rope " + x.rope, "ok", "value", x.value, "knot", x.knot}.check(t, shop.New())
	}
}

// P11.1: boats and magnitude.
func TestIntervals(t *testing.T) {
	for _, x := range []struct {
		lines []string
		want  talk
	}{
		{nil, talk{"boats", "error 1", "magnitude", "error 1"}},
		{[]string{"shift 5 5"}, talk{"boats", "boats 1 5", "magnitude", "magnitude 1"}},
		{[]string{"shift 0 2", "shift 1 3", "shift 3 4"}, talk{"boats", "boats 2 1", "magnitude", "magnitude 2"}},
		{[]string{"shift 0 0", "shift 1 1", "shift 2 2", "shift 0 2"}, talk{"boats", "boats 2 0", "magnitude", "magnitude 3"}},
		{[]string{"shift 7 9", "shift -4 -3", "shift -9 -3", "shift 8 9"}, talk{"boats", "boats 2 -4", "magnitude", "magnitude 2"}},
		{each("shift # #", 1, 12), talk{"boats", "boats 1 1", "magnitude", "magnitude 12"}},
	} {
		x.want.check(t, told(t, x.lines...))
	}
}

// P11.1: kings and rounds, as soon as all results are there.
func TestRegatta(t *testing.T) {
	lesser := strings.Fields("01 02 03 04 05 12 13 14 15 23 24 25 34 35 45")
	for _, x := range []struct {
		turned string
		want   talk
	}{
		{"", talk{"kings", "kings 0", "rounds", "rounds 0"}},
		{"02", talk{"kings", "kings 0 1 2", "rounds", "rounds 1"}},
		{"35", talk{"kings", "kings 0", "rounds", "rounds 1"}},
		{"02 35", talk{"kings", "kings 0 1 2", "rounds", "rounds 2"}},
		{"05", talk{"kings", "kings 0 1 5", "rounds", "rounds 4"}},
		{"03 04 05 14 15 25", talk{"kings", "kings 1 2 3 4 5", "rounds", "rounds 8"}},
	} {
		s := shop.New()
		for _, two := range lesser {
			talk{"kings", "error 5", "rounds", "error 5"}.check(t, s)
			winner, loser := two[:1], two[1:]
			if strings.Contains(x.turned, two) {
				winner, loser = loser, winner
			}
			talk{"beat " + winner + " " + loser, "ok"}.check(t, s)
		}
		x.want.check(t, s)
	}
}

// P11.1: graph.
func TestGraph(t *testing.T) {
	for _, x := range []struct{ degrees, want string }{
		{"3 3 1 1", "graph 2"},
		{"1 3 1 3", "graph 2"},
		{"2 2 2", "graph yes"},
		{"0", "graph yes"},
		{"1", "graph 0"},
		{"-2", "graph 0"},
		{"3 -1", "graph 0"},
		{"2 0", "graph 1"},
		{"1000000", "graph 1"},
		{"4 4 4 1 1", "graph 2"},
		{"2 5 1 5 2 5 2", "graph 3"},
		{"15 15 15 15 15 15 15 15 15 15 15 15 15 15 15 15", "graph yes"},
	} {
		s := shop.New()
		for _, d := range strings.Fields(x.degrees) {
			talk{"degree " + d, "ok"}.check(t, s)
		}
		talk{"graph", x.want}.check(t, s)
	}
}

// P11.1: unify and general, and what chapter 1 returns otherwise.
func TestUnify(t *testing.T) {
	for _, x := range []struct{ terms, unify, general string }{
		{"f(X,g(a)) f(h(Y),Y)", "unify yes", "general f(A,B)"},
		{"f(X,X) f(Y,g(Y))", "unify no", "general f(A,B)"},
		{"f(a,a) f(b,b)", "unify no", "general f(A,A)"},
		{"X a", "unify yes", "general A"},
		{"f(Z,X,Z) f(Z,X,Z)", "unify yes", "general f(A,B,A)"},
		{"a b", "unify no", "general A"},
	} {
		talk{"terms " + x.terms, "ok", "unify", x.unify, "general", x.general}.check(t, shop.New())
	}
	var left, right, names, zs []string
	for i := range 20 {
		v := string(rune('B' + i))
		left, right = append(left, string(rune('A'+i))), append(right, "f("+v+","+v+")")
	}
	talk{"terms g(" + strings.Join(left, ",") + ") g(" + strings.Join(right, ",") + ")", "ok", "unify", "error 12"}.check(t, shop.New())
	for i := range 27 {
		names, zs = append(names, "a"+string(rune('a'+i%13))+string(rune('a'+i/13))), append(zs, "z")
	}
	talk{
		"terms g(" + strings.Join(names[:26], ",") + ") g(" + strings.Join(zs[:26], ",") + ")", "ok", "general", "general g(A,B,C,D,E,F,G,H,I,J,K,L,M,N,O,P,Q,R,S,T,U,V,W,X,Y,Z)",
		"terms g(" + strings.Join(names, ",") + ") g(" + strings.Join(zs, ",") + ")", "ok", "general", "error 1", "unify", "unify no",
	}.check(t, shop.New())
}

// P11.1: normal, of any word, and what chapter 2 returns otherwise.
func TestNormal(t *testing.T) {
	talk{
		"normal x", "normal x 0",
		"normal xyz", "normal ((x y) z) 0",
		`normal \x.x`, `normal \0 0`,
		`normal \x.\y.x(yx)`, `normal \\(1 (0 1)) 0`,
		`normal (\x.\y.x)ab`, "normal a 2",
		`normal (\x.y)((\x.xx)(\x.xx))`, "normal y 1",
		`normal (\x.xx)(\x.xx)`, "normal none",
		`normal (\x.xxx)(\x.xxx)`, "normal none",
		`normal (\x.` + strings.Repeat("x", 200) + ")(" + strings.Repeat("y", 200) + ")", "error 12",
		"normal (", "error 20", "normal ()", "error 20", "normal X", "error 20", `normal \x`, "error 20", `normal \x.`, "error 20", "normal 0", "error 20", "normal \xff", "error 20", "normal #", "error 20",
		`normal \\0`, "error 20", `normal ` + strings.Repeat("(", 101) + "x" + strings.Repeat(")", 101), "error 20",
		"normal " + strings.Repeat("(", 100) + "x" + strings.Repeat(")", 100), "normal x 0",
	}.check(t, shop.New())
}

// P11.1: two hundred steps, and one more.
func TestSteps(t *testing.T) {
	numeral := func(n int) string { return `(\f.\x.` + strings.Repeat("f(", n) + "x" + strings.Repeat(")", n) + ")" }
	for n, want := range map[int]string{2: "normal y 12", 3: "normal y 19", 12: "normal y 172", 13: "normal y 199", 14: "normal none"} {
		talk{"normal " + numeral(2) + numeral(n) + `(\x.x)y`, want}.check(t, shop.New())
	}
	last := numeral(2) + numeral(13) + `(\x.x)y`
	talk{`normal (\x.x)` + last, "normal y 200", `normal (\x.x)(\x.x)` + last, "normal none"}.check(t, shop.New())
}
