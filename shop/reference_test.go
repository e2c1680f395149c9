package shop_test

import (
	"fmt"
	"math/big"
	"regexp"
	"slices"
	"strconv"
	"strings"

	"forcola/api"
	"forcola/beta"
	"forcola/ferry"
	"forcola/gram"
	"forcola/part"
	"forcola/tangle"
	"forcola/term"
)

// What follows is a slow and plain model of the chapter's definitions, to which the package is compared.

// model keeps nothing but the lines that had the reply ok, and reads from them what it needs.
type model struct{ lines []string }

// entry is a line of the chapter's tables: N stands for a number and W for a word.
type entry struct {
	form   string
	change func(m *model, w []string) api.Errno
	ask    func(m *model, w []string) string
}

var entries = []entry{
	{form: "quarrel N N", change: (*model).quarrel},
	{form: "peace N N", change: (*model).peace},
	{form: "rule W", change: (*model).rule},
	{form: "rope W", change: (*model).tie},
	{form: "slip", change: func(*model, []string) api.Errno { return api.OK }},
	{form: "shift N N", change: (*model).shift},
	{form: "beat N N", change: (*model).beat},
	{form: "degree N", change: (*model).degree},
	{form: "terms W W", change: func(_ *model, w []string) api.Errno { return term.Check(w[0], w[1]) }},
	{form: "least", ask: (*model).least},
	{form: "trips N", ask: (*model).trips},
	{form: "hues", ask: (*model).hues},
	{form: "apart", ask: (*model).apart},
	{form: "trees W", ask: (*model).trees},
	{form: "value", ask: (*model).value},
	{form: "knot", ask: (*model).knot},
	{form: "boats", ask: (*model).boats},
	{form: "magnitude", ask: (*model).magnitude},
	{form: "kings", ask: (*model).kings},
	{form: "rounds", ask: (*model).rounds},
	{form: "graph", ask: (*model).graph},
	{form: "unify", ask: (*model).unify},
	{form: "general", ask: (*model).general},
	{form: "normal W", ask: (*model).normal},
}

// pattern is what the lines of the entry look like.
func (e entry) pattern() string {
	p := strings.ReplaceAll(e.form, "N", `(0|-?[1-9][0-9]{0,6})`)
	return `\A` + strings.ReplaceAll(p, "W", `([^ ]+)`) + `\z`
}

var patterns = func() []*regexp.Regexp {
	var l []*regexp.Regexp
	for _, e := range entries {
		l = append(l, regexp.MustCompile(e.pattern()))
	}
	return l
}()

// do returns the reply to a line.
func (m *model) do(line string) string {
	if len(line) > 512 || strings.Contains(line, "\n") {
		return "error 2"
	}
	if line == "" || strings.HasPrefix(line, "#") {
		return ""
	}
	for i, e := range entries {
		w := patterns[i].FindStringSubmatch(line)
		if w == nil || !e.inRange(w[1:]) {
			continue
		}
		if e.ask != nil {
			return e.ask(m, w[1:])
		}
		if no := e.change(m, w[1:]); no != api.OK {
			return refused(no)
		}
		m.lines = append(m.lines, line)
		return "ok"
	}
	return "error 110"
}

// inRange reports whether no number among the words is beyond a million.
func (e entry) inRange(words []string) bool {
	for i, kind := range strings.Split(e.form, " ")[1:] {
		if n := num(words[i]); kind == "N" && (n < -1e6 || n > 1e6) {
			return false
		}
	}
	return true
}

func refused(e api.Errno) string { return "error " + strconv.Itoa(int(e)) }

func num(word string) int {
	n, _ := strconv.Atoi(word)
	return n
}

// said returns what follows the name in all lines that begin with it.
func (m *model) said(name string) [][]string {
	var l [][]string
	for _, line := range m.lines {
		if w := strings.Split(line, " "); w[0] == name {
			l = append(l, w[1:])
		}
	}
	return l
}

// pairs returns the two numbers of all lines that begin with the name.
func (m *model) pairs(name string) [][2]int {
	var l [][2]int
	for _, w := range m.said(name) {
		l = append(l, [2]int{num(w[0]), num(w[1])})
	}
	return l
}

// areQuarrelling finds the last line about the two.
func (m *model) areQuarrelling(a, b int) bool {
	for _, line := range slices.Backward(m.lines) {
		for _, of := range []string{fmt.Sprint(a, b), fmt.Sprint(b, a)} {
			if line == "quarrel "+of {
				return true
			}
			if line == "peace "+of {
				return false
			}
		}
	}
	return false
}

func (m *model) edges() [][2]int {
	var l [][2]int
	for a := range 8 {
		for b := a + 1; b < 8; b++ {
			if m.areQuarrelling(a, b) {
				l = append(l, [2]int{a, b})
			}
		}
	}
	return l
}

func (m *model) rules() []string {
	var l []string
	for _, w := range m.said("rule") {
		l = append(l, w[0])
	}
	return l
}

func (m *model) rope() string {
	word := ""
	for _, line := range m.lines {
		if line == "slip" {
			word = ""
		}
		if w, ok := strings.CutPrefix(line, "rope "); ok {
			word += w
		}
	}
	return word
}

// hasBeaten reports whether there is such a result.
func (m *model) hasBeaten(a, b int) bool { return slices.Contains(m.pairs("beat"), [2]int{a, b}) }

func (m *model) terms() (string, string) {
	l := append([][]string{{"a", "a"}}, m.said("terms")...)
	last := l[len(l)-1]
	return last[0], last[1]
}

// notTwoOf returns ErrArg if the words are not two different numbers that are less than count.
func notTwoOf(count int, w []string) api.Errno {
	a, b := num(w[0]), num(w[1])
	if a < 0 || a >= count || b < 0 || b >= count || a == b {
		return api.ErrArg
	}
	return api.OK
}

func (m *model) quarrel(w []string) api.Errno {
	if e := notTwoOf(8, w); e != api.OK {
		return e
	}
	if m.areQuarrelling(num(w[0]), num(w[1])) {
		return api.ErrState
	}
	return api.OK
}

func (m *model) peace(w []string) api.Errno {
	if e := notTwoOf(8, w); e != api.OK {
		return e
	}
	if !m.areQuarrelling(num(w[0]), num(w[1])) {
		return api.ErrNone
	}
	return api.OK
}

var ruleForm = regexp.MustCompile(`\A[A-Z]=[A-Za-z]{0,12}\z`)

func (m *model) rule(w []string) api.Errno {
	switch {
	case !ruleForm.MatchString(w[0]) || slices.Contains(m.rules(), w[0]):
		return api.ErrRule
	case len(m.rules()) >= 12:
		return api.ErrFull
	}
	return api.OK
}

func (m *model) tie(w []string) api.Errno {
	_, _, e := tangle.Value(m.rope() + w[0])
	return e
}

func (m *model) shift(w []string) api.Errno {
	switch {
	case num(w[0]) > num(w[1]):
		return api.ErrArg
	case len(m.said("shift")) >= 12:
		return api.ErrFull
	}
	return api.OK
}

func (m *model) beat(w []string) api.Errno {
	if e := notTwoOf(6, w); e != api.OK {
		return e
	}
	if m.hasBeaten(num(w[0]), num(w[1])) || m.hasBeaten(num(w[1]), num(w[0])) {
		return api.ErrState
	}
	return api.OK
}

func (m *model) degree([]string) api.Errno {
	if len(m.said("degree")) >= 16 {
		return api.ErrFull
	}
	return api.OK
}

// least tries all numbers of seats.
func (m *model) least([]string) string {
	for b := 0; ; b++ {
		if _, ok, _ := ferry.Plan(8, m.edges(), b); ok {
			return fmt.Sprint("least ", b)
		}
	}
}

func (m *model) trips(w []string) string {
	b := num(w[0])
	if b < 0 || b > 10 {
		return refused(api.ErrArg)
	}
	plan, ok, _ := ferry.Plan(8, m.edges(), b)
	if !ok {
		return "trips none"
	}
	return fmt.Sprint("trips ", len(plan))
}

// canPaint reports whether so many hues are enough, by painting one edge after the other.
func canPaint(edges [][2]int, painted []int, hues int) bool {
	if len(painted) == len(edges) {
		return true
	}
	this := edges[len(painted)]
	for h := range min(hues, len(painted)+1) {
		free := true
		for i, p := range painted {
			other := edges[i]
			meets := this[0] == other[0] || this[0] == other[1] || this[1] == other[0] || this[1] == other[1]
			free = free && (p != h || !meets)
		}
		if free && canPaint(edges, append(slices.Clone(painted), h), hues) {
			return true
		}
	}
	return false
}

// hues tries all numbers of hues, from the greatest number of edges at a vertex on.
func (m *model) hues([]string) string {
	var at [8]int
	for _, e := range m.edges() {
		at[e[0]]++
		at[e[1]]++
	}
	n := slices.Max(at[:])
	for !canPaint(m.edges(), nil, n) {
		n++
	}
	return fmt.Sprint("hues ", n)
}

// apart says no if there is a path of four.
func (m *model) apart([]string) string {
	if _, ok, _ := part.Path(8, m.edges()); ok {
		return "apart no"
	}
	s, _ := part.Shape(8, m.edges())
	return "apart " + s
}

func (m *model) trees(w []string) string {
	n, e := gram.Count(m.rules(), w[0])
	if e != api.OK {
		return refused(e)
	}
	return fmt.Sprint("trees ", n)
}

// fraction goes through the letters of the rope with big numbers.
func (m *model) fraction() (p, q *big.Int) {
	p, q = big.NewInt(0), big.NewInt(1)
	for _, letter := range m.rope() {
		switch letter {
		case 't':
			p = new(big.Int).Add(p, q)
		case 'T':
			p = new(big.Int).Sub(p, q)
		case 'r':
			p, q = new(big.Int).Neg(q), p
		}
		if q.Sign() < 0 || q.Sign() == 0 && p.Sign() < 0 {
			p, q = new(big.Int).Neg(p), new(big.Int).Neg(q)
		}
	}
	return p, q
}

func (m *model) value([]string) string {
	p, q := m.fraction()
	return fmt.Sprint("value ", p, " ", q)
}

// knot closes by the definition: with r = 0 and s = 1, u is 1, and v may be 0. So N is p, and q (or its negative) leaves the rest m; the same links have m, and what makes 1 with it.
func (m *model) knot([]string) string {
	p, q := m.fraction()
	if !p.IsInt64() || !q.IsInt64() || max(p.Int64(), -p.Int64(), q.Int64()) > 500 {
		return refused(api.ErrArg)
	}
	n, rest := int(p.Int64()), int(q.Int64())
	if n == 0 {
		return refused(api.ErrNone)
	}
	if n < 0 {
		n, rest = -n, -rest
	}
	rest = (rest%n + n) % n
	for other := range n {
		if other == rest || other*rest%n == 1 {
			return fmt.Sprint("knot ", n, " ", other)
		}
	}
	panic("a link that is not even the same as itself")
}

// boats counts the intervals that contain each of the ends: a peak may be one of them.
func (m *model) boats([]string) string {
	l := m.pairs("shift")
	if len(l) == 0 {
		return refused(api.ErrArg)
	}
	most, peak := 0, 0
	for _, x := range l {
		for _, at := range x {
			n := 0
			for _, y := range l {
				if y[0] <= at && at <= y[1] {
					n++
				}
			}
			if n > most || n == most && at < peak {
				most, peak = n, at
			}
		}
	}
	return fmt.Sprint("boats ", most, " ", peak)
}

// magnitude writes down what is before each shift.
func (m *model) magnitude([]string) string {
	l := m.pairs("shift")
	if len(l) == 0 {
		return refused(api.ErrArg)
	}
	sets := map[string]bool{}
	for _, y := range l {
		before := ""
		for i, x := range l {
			if x[1] < y[0] {
				before += fmt.Sprint(i, " ")
			}
		}
		sets[before] = true
	}
	return fmt.Sprint("magnitude ", len(sets))
}

// isKing reports whether a beats each other boat, or one that beats it.
func (m *model) isKing(a int) bool {
	for b := range 6 {
		rules := a == b || m.hasBeaten(a, b)
		for c := range 6 {
			rules = rules || m.hasBeaten(a, c) && m.hasBeaten(c, b)
		}
		if !rules {
			return false
		}
	}
	return true
}

func (m *model) kings([]string) string {
	if len(m.said("beat")) < 15 {
		return refused(api.ErrState)
	}
	reply := "kings"
	for a := range 6 {
		if m.isKing(a) {
			reply += fmt.Sprint(" ", a)
		}
	}
	return reply
}

func (m *model) rounds([]string) string {
	if len(m.said("beat")) < 15 {
		return refused(api.ErrState)
	}
	n := 0
	for a := range 6 {
		for b := range 6 {
			for c := range 6 {
				if m.hasBeaten(a, b) && m.hasBeaten(b, c) && m.hasBeaten(c, a) {
					n++
				}
			}
		}
	}
	return fmt.Sprint("rounds ", n/3)
}

// isViolation is the definition of chapter 5, the numbers being sorted from the greatest to the least.
func isViolation(d []int, k int) bool {
	sum := 0
	for _, x := range d {
		sum += x
	}
	if k == 0 {
		return sum%2 != 0 || d[len(d)-1] < 0
	}
	left, right := 0, k*(k-1)
	for i, x := range d {
		if i < k {
			left += x
		} else {
			right += min(x, k)
		}
	}
	return left > right
}

func (m *model) graph([]string) string {
	var d []int
	for _, w := range m.said("degree") {
		d = append(d, num(w[0]))
	}
	if len(d) == 0 {
		return refused(api.ErrArg)
	}
	slices.Sort(d)
	slices.Reverse(d)
	for k := range len(d) + 1 {
		if isViolation(d, k) {
			return fmt.Sprint("graph ", k)
		}
	}
	return "graph yes"
}

func (m *model) unify([]string) string {
	s, t := m.terms()
	_, ok, e := term.Unify(s, t)
	if e != api.OK {
		return refused(e)
	}
	return map[bool]string{true: "unify yes", false: "unify no"}[ok]
}

func (m *model) general([]string) string {
	s, t := m.terms()
	g, e := term.Generalize(s, t)
	if e != api.OK {
		return refused(e)
	}
	return "general " + g
}

// normal does one step after the other.
func (m *model) normal(w []string) string {
	form, e := beta.Index(w[0])
	for n := 0; e == api.OK; n++ {
		next, ok, no := beta.Step(form)
		if !ok && no == api.OK {
			return fmt.Sprint("normal ", form, " ", n)
		}
		if n == 200 {
			return "normal none"
		}
		form, e = next, no
	}
	return refused(e)
}
