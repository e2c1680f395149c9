package shop_test

import (
	"math/rand"
	"slices"
	"strconv"
	"strings"
	"testing"

	"forcola/api"
	"forcola/shop"
)

// words are what random lines take their words from.
var (
	ruleWords   = strings.Fields(`S=SS S=a S=b S= S=aSb A=a A=SA S=A S=AA A=b A=aAb B=c S=B B= S=S A=A C=abc S=x S s=a S=1 S=aaaaaaaaaaaaa`)
	ropeWords   = strings.Fields(`t T r tt ttt tr ttr tttr tttrtttrtttr rTrT x t1 TTTTT trtrtr`)
	treeWords   = strings.Fields(`a b ab aa aab aabb abab aaa c cc A a1 aaaaaaaa abababab aaaaaaaaaaaaaaaaaaaaaaaaa`)
	termWords   = strings.Fields(`a b X Y f(X) f(a) f(Y) g(X,Y) g(X,X) g(a,f(X)) g(f(Y),Y) f f(X f() h(g(X,a),f(Y)) h(g(Y,Y),X) AB abcdefg`)
	normalWords = strings.Fields(`x xy \x.x (\x.xx)(\x.xx) (\x.\y.x)ab (\x.xx)((\y.y)z) (\f.\x.f(fx))(\f.\x.f(fx)) ( \x X (\x.xxx)(\x.xxx) \x.(\y.xy)`)
	firstWords  = strings.Fields(`quarrel peace rule rule rule rope slip shift beat degree terms least trips hues apart trees value knot boats magnitude kings rounds graph unify general normal`)
	oddLines    = []string{"", "#", "# slip", " ", "what", "slip ", " slip", "rope  t", "terms a", "quarrel 1", "quarrel a b", "degree -0", "trips 01", "shift 1 1000001", "slip\nslip", "trees ", "normal", strings.Repeat("x", 513), "quarrel 0 1 2", "kings 1", "beat 0 1.0", "\xff\xfe", "rope \xff"}
)

// dice are random lines.
type dice struct{ *rand.Rand }

func (r dice) one(words []string) string { return words[r.Intn(len(words))] }

// number is from least to most.
func (r dice) number(least, most int) string { return strconv.Itoa(least + r.Intn(most-least+1)) }

// line is mostly a line of the tables.
func (r dice) line() string {
	first := r.one(firstWords)
	switch first {
	case "quarrel", "peace":
		return first + " " + r.number(-1, 8) + " " + r.number(-1, 8)
	case "rule":
		return first + " " + r.one(ruleWords)
	case "rope":
		return first + " " + r.one(ropeWords)
	case "shift":
		return first + " " + r.number(-5, 9) + " " + r.number(-3, 12)
	case "beat":
		return first + " " + r.number(-1, 6) + " " + r.number(-1, 6)
	case "degree":
		return first + " " + r.number(-1, 7)
	case "terms":
		return first + " " + r.one(termWords) + " " + r.one(termWords)
	case "trips":
		return first + " " + r.number(-2, 12)
	case "trees":
		return first + " " + r.one(treeWords)
	case "normal":
		return first + " " + r.one(normalWords)
	case "slip":
		if r.Intn(4) > 0 {
			return r.one(oddLines)
		}
	}
	return first
}

// damaged is the line with one byte too many, too few, or another one.
func (r dice) damaged(line string) string {
	const bytes = "  01-aSXtr(),=\\.#\t\n\xff"
	at, b := r.Intn(len(line)+1), bytes[r.Intn(len(bytes))]
	rest := line[at:]
	if r.Intn(2) == 0 && rest != "" {
		rest = rest[1:]
	}
	if r.Intn(3) == 0 {
		return line[:at] + rest
	}
	return line[:at] + string([]byte{b}) + rest
}

// lines are so many random ones, of which some are damaged, and some are all results that a regatta needs.
func (r dice) lines(count int) []string {
	var l []string
	for len(l) < count {
		line := r.line()
		switch r.Intn(40) {
		case 0, 1, 2, 3:
			line = r.damaged(line)
		case 4:
			l = append(l, r.results()...)
		}
		l = append(l, line)
	}
	return l
}

// results are all lines that two boats may have, in any order.
func (r dice) results() []string {
	var l []string
	for a := range 6 {
		for b := range 6 {
			l = append(l, "beat "+strconv.Itoa(a)+" "+strconv.Itoa(b))
		}
	}
	r.Shuffle(len(l), func(i, j int) { l[i], l[j] = l[j], l[i] })
	return l
}

// P11.1, P11.2: random lines have the replies of the model, and lead to its state.
func TestModel(t *testing.T) {
	r := dice{rand.New(rand.NewSource(11))}
	seen := map[string]int{}
	for range 40 {
		s, m := shop.New(), &model{}
		for _, l := range r.lines(500) {
			want := m.do(l)
			if got := s.Do(l); got != want {
				t.Fatalf("%q: %q, not %q, after %q", l, got, want, m.lines)
			}
			seen[strings.Split(l, " ")[0]+": "+kindOf(want)]++
		}
		book := strings.Join(append(m.lines, ""), "\n")
		if s.Book() != book || s.Rope() != m.rope() || !slices.Equal(s.Edges(), m.edges()) {
			t.Fatalf("book %q, not %q; rope %q, not %q; edges %v, not %v", s.Book(), book, s.Rope(), m.rope(), s.Edges(), m.edges())
		}
	}
	for _, k := range strings.Split("quarrel: ok,quarrel: error 1,quarrel: error 5,peace: ok,peace: error 4,rule: ok,rule: error 30,rule: error 8,rope: ok,rope: error 60,slip: ok,shift: ok,shift: error 1,shift: error 8,beat: ok,beat: error 5,degree: ok,degree: error 8,terms: ok,terms: error 10,terms: error 11,trips: trips,trips: error 1,apart: apart,trees: trees,trees: error 31,knot: knot,knot: error 4,kings: kings,kings: error 5,rounds: rounds,graph: graph,unify: unify,general: general,normal: normal,normal: error 20", ",") {
		if seen[k] == 0 {
			t.Errorf("no line has been %q", k)
		}
	}
}

// kindOf is an error with its number, and the first word of other replies.
func kindOf(reply string) string {
	if strings.HasPrefix(reply, "error") {
		return reply
	}
	return strings.Split(reply, " ")[0]
}

// P11.3: a script has the replies of a shop, one for each line that has any.
func TestScripts(t *testing.T) {
	r := dice{rand.New(rand.NewSource(113))}
	for range 40 {
		text := strings.Join(r.lines(120), "\n")
		s := shop.New()
		want := ""
		for _, l := range strings.Split(text, "\n") {
			if reply := s.Do(l); reply != "" {
				want += reply + "\n"
			}
		}
		for _, end := range []string{"", "\n", "\n\n", "\n#"} {
			if got, e := shop.Run(text + end); got != want || e != api.OK {
				t.Fatalf("Run of %q: %q, not %q, %d", text, got, want, e)
			}
		}
	}
}

// P11.4, W7: a new shop that is given the book's lines gives the same replies to all later lines.
func TestBookIsShop(t *testing.T) {
	r := dice{rand.New(rand.NewSource(114))}
	for range 60 {
		s := shop.New()
		for _, l := range r.lines(100) {
			s.Do(l)
		}
		again := shop.New()
		for l := range strings.Lines(s.Book()) {
			if got := again.Do(strings.TrimSuffix(l, "\n")); got != "ok" {
				t.Fatalf("%q of the book: %q", l, got)
			}
		}
		if state(again) != state(s) {
			t.Fatalf("state %q, not %q", state(again), state(s))
		}
		for _, l := range r.lines(60) {
			if got, want := again.Do(l), s.Do(l); got != want {
				t.Fatalf("%q: %q, not %q, after %q", l, got, want, s.Book())
			}
		}
	}
}

// P11.5: all later replies are those that would be given without the questions and the refused lines.
func TestNothingChanges(t *testing.T) {
	r := dice{rand.New(rand.NewSource(115))}
	for range 12 {
		s, quiet := shop.New(), shop.New()
		before := state(s)
		for _, l := range r.lines(150) {
			reply := s.Do(l)
			after := state(s)
			if reply != "ok" && after != before {
				t.Fatalf("%q with the reply %q changed %q to %q", l, reply, before, after)
			}
			if reply == "ok" && quiet.Do(l) != "ok" {
				t.Fatalf("%q is refused without the others, after %q", l, s.Book())
			}
			before = after
		}
		if state(quiet) != state(s) {
			t.Fatalf("state %q, not %q", state(quiet), state(s))
		}
	}
}

// P11.6: trips has a plan just if its number is at least that of least.
func TestLeastTrips(t *testing.T) {
	r := dice{rand.New(rand.NewSource(116))}
	for range 150 {
		s := shop.New()
		for range r.Intn(40) {
			s.Do("quarrel " + r.number(0, 7) + " " + r.number(0, 7))
		}
		least, err := strconv.Atoi(strings.TrimPrefix(s.Do("least"), "least "))
		if err != nil {
			t.Fatal(s.Do("least"))
		}
		for b := range 11 {
			if got := s.Do("trips " + strconv.Itoa(b)); (got == "trips none") != (b < least) {
				t.Errorf("%d seats: %s, least %d, edges %v", b, got, least, s.Edges())
			}
		}
	}
}

// P11.6: after rope t and rope T the value is that of before.
func TestThereAndBack(t *testing.T) {
	r := dice{rand.New(rand.NewSource(117))}
	for range 300 {
		s := shop.New()
		for range r.Intn(12) {
			s.Do("rope " + r.one(ropeWords))
		}
		want := s.Do("value")
		talk{"rope t", "ok", "rope T", "ok", "value", want, "rope Tt", "ok", "value", want}.check(t, s)
	}
}
