package parse_test

import (
	"fmt"
	"math"
	"math/rand"
	"slices"
	"strconv"
	"strings"
	"testing"

	"offshoot/api"
	"offshoot/lex"
	"offshoot/parse"
)

// numbers are the chapter's predicates, and how many values they have.
var numbers = map[string]int{
	"eq": 1, "neq": 1, "lt": 1, "lte": 1, "gt": 1, "gte": 1, "startingWith": 1, "endingWith": 1, "containing": 1,
	"between": 2, "inside": 2, "outside": 2, "within": -1, "without": -1,
}

// model is the chapter once more, as a stack of what is still to come: no function of it calls itself, and nothing panics. It tells steps as told does.
type model struct {
	words []api.Word
	stack []string   // what is to come, the next at last
	open  []api.Word // the names of steps and predicates that are not ended
	count []int      // of each of these, of lists and of traversals how many parts there are
	joins []int      // of each predicate that is not ended how much is joined
	deep  int
	steps int
	out   strings.Builder
	at    int
	e     api.Errno
}

// asked is what Parse must answer, the steps as they are told.
func asked(s string) (string, int, api.Errno) {
	words, at, e := lex.Words(s)
	if e != api.OK {
		return "", at, e
	}
	m := &model{words: words, stack: []string{"end", "steps", ".", "g"}}
	m.count = []int{0}
	for len(m.stack) > 0 && m.e == api.OK {
		n := len(m.stack) - 1
		next := m.stack[n]
		m.stack = m.stack[:n]
		m.play(next, m.words[0])
	}
	if m.e != api.OK {
		return "", m.at, m.e
	}
	return m.out.String(), 0, api.OK
}

func (m *model) wrong(w api.Word, e api.Errno) {
	if m.e == api.OK {
		m.at, m.e = w.At, e
	}
}

// will lays what is to come.
func (m *model) will(l ...string) {
	slices.Reverse(l)
	m.stack = append(m.stack, l...)
}

func (m *model) pass() { m.words = m.words[1:] }

func (m *model) begin() { m.count = append(m.count, 0) }

func (m *model) end() int {
	n := len(m.count) - 1
	c := m.count[n]
	m.count = m.count[:n]
	return c
}

func (m *model) one(w api.Word) {
	if m.count[len(m.count)-1]++; m.count[len(m.count)-1] > 12 {
		m.wrong(w, api.ErrMost)
	}
}

func (m *model) deeper(w api.Word) {
	if m.deep++; m.deep > 12 {
		m.wrong(w, api.ErrMost)
	}
}

func isSign(w api.Word, s string) bool { return w.Kind == api.WordSign && w.S == s }

// sort tells what may begin with a word (and the one behind it).
func sort(w, behind api.Word) string {
	_, is := numbers[w.S]
	switch {
	case isSign(w, "["):
		return "list"
	case w.Kind == api.WordSign || w.Kind == api.WordEnd:
		return "none"
	case w.Kind != api.WordName || w.S == "true" || w.S == "false" || w.S == "null":
		return "plain"
	case w.S == "__" || isSign(behind, "(") && !is:
		return "trav"
	case isSign(behind, "("):
		return "pred"
	}
	return "word"
}

func (m *model) play(next string, w api.Word) {
	switch next {
	case "g":
		if w.Kind != api.WordName || w.S != "g" {
			m.wrong(w, api.ErrParse)
		}
		m.pass()
	case "end":
		if w.Kind != api.WordEnd {
			m.wrong(w, api.ErrParse)
		}
	case "steps":
		m.will("step", "further steps")
	case "further steps":
		if isSign(w, ".") {
			m.pass()
			m.will("steps")
		}
	case "step":
		m.playStep(w)
	case "step ends":
		m.playEnds()
	case "args", "values", "list":
		m.playFirst(next, w)
	case "further args", "further values", "further list":
		m.playFurther(strings.TrimPrefix(next, "further "), w)
	case "arg":
		m.playArg(w)
	case "value":
		m.playValue(w)
	default:
		m.playMore(next, w)
	}
}

func (m *model) playStep(w api.Word) {
	if w.Kind != api.WordName {
		m.wrong(w, api.ErrParse)
		return
	}
	if m.steps++; m.steps > 150 {
		m.wrong(w, api.ErrMost)
	}
	m.count[len(m.count)-1]++
	m.open = append(m.open, w)
	m.begin()
	m.pass()
	m.will("(", "args", "step ends")
}

func (m *model) playEnds() {
	n := len(m.open) - 1
	say(&m.out, m.open[n].S, m.end())
	m.open = m.open[:n]
}

var closes = map[string]string{"args": ")", "values": ")", "list": "]"}
var parts = map[string]string{"args": "arg", "values": "inner", "list": "part"}

func (m *model) playFirst(next string, w api.Word) {
	if isSign(w, closes[next]) {
		m.pass()
		return
	}
	m.will(parts[next], "further "+next)
}

func (m *model) playFurther(next string, w api.Word) {
	if !isSign(w, closes[next]) && !isSign(w, ",") {
		m.wrong(w, api.ErrParse)
		return
	}
	m.pass()
	if w.S == "," {
		m.will(parts[next], "further "+next)
	}
}

func (m *model) playArg(w api.Word) {
	s := sort(w, m.behind())
	if s == "none" {
		m.wrong(w, api.ErrParse)
		return
	}
	m.one(w)
	switch s {
	case "list", "plain":
		m.will("value", "arg is value")
	case "word":
		m.out.WriteString(strconv.Quote(w.S) + " ")
		say(&m.out, "word", 1)
		m.pass()
	case "pred":
		m.will("pred", "arg is pred")
	case "trav":
		m.deeper(w)
		if w.S == "__" && isSign(m.behind(), ".") {
			m.pass()
			m.pass()
		}
		m.begin()
		m.will("steps", "arg is trav")
	}
}

func (m *model) behind() api.Word {
	if len(m.words) < 2 {
		return api.Word{}
	}
	return m.words[1]
}

func (m *model) playValue(w api.Word) {
	switch {
	case isSign(w, "["):
		m.deeper(w)
		m.begin()
		m.pass()
		m.will("list", "list ends")
		return
	case w.Kind == api.WordInt:
		fmt.Fprintf(&m.out, "%d ", w.N)
	case w.Kind == api.WordFloat:
		fmt.Fprintf(&m.out, "f%x ", math.Float64bits(w.F))
	case w.Kind == api.WordStr:
		m.out.WriteString(strconv.Quote(w.S) + " ")
	default:
		m.out.WriteString(w.S + " ")
	}
	m.pass()
}

func (m *model) playMore(next string, w api.Word) {
	switch next {
	case ".", "(", ")":
		if !isSign(w, next) {
			m.wrong(w, api.ErrParse)
		}
		m.pass()
	case "arg is value":
		say(&m.out, "value", 1)
	case "arg is pred":
		say(&m.out, "pred", 1)
	case "arg is trav":
		say(&m.out, "trav", m.end())
		m.deep--
	case "list ends":
		say(&m.out, "list", m.end())
		m.deep--
	case "part", "inner":
		if s := sort(w, api.Word{}); s != "list" && s != "plain" {
			m.wrong(w, api.ErrParse)
			return
		}
		m.one(w)
		if next == "part" {
			m.will("value")
			return
		}
		m.deeper(w)
		m.will("value", "inner ends")
	case "inner ends":
		m.deep--
		m.playNumber(false)
	default:
		m.playPred(next, w)
	}
}

// playNumber holds the number of values of the predicate that is open against what it must be.
func (m *model) playNumber(all bool) {
	w, n := m.open[len(m.open)-1], m.count[len(m.count)-1]
	if must := numbers[w.S]; must != -1 && (n > must || all && n < must) {
		m.wrong(w, api.ErrParse)
	}
}

func (m *model) playPred(next string, w api.Word) {
	switch next {
	case "pred":
		if _, is := numbers[w.S]; !is || w.Kind != api.WordName {
			m.wrong(w, api.ErrParse)
			return
		}
		m.open = append(m.open, w)
		m.begin()
		m.pass()
		m.joins = append(m.joins, 0)
		m.will("(", "values", "pred is whole", "joined")
	case "pred is whole":
		m.playNumber(true)
		m.playEnds()
	case "joined":
		m.playJoined(w)
	case "and", "or":
		say(&m.out, next, 2)
	case "not":
		say(&m.out, next, 1)
	}
}

func (m *model) playJoined(w api.Word) {
	n := len(m.joins) - 1
	if !isSign(w, ".") {
		m.deep -= m.joins[n]
		m.joins = m.joins[:n]
		return
	}
	m.pass()
	w = m.words[0]
	if w.Kind != api.WordName || w.S != "and" && w.S != "or" && w.S != "negate" {
		m.wrong(w, api.ErrParse)
		return
	}
	m.deeper(w)
	m.joins[n]++
	m.pass()
	if w.S == "negate" {
		m.will("(", ")", "not", "joined")
	} else {
		m.will("(", "pred", ")", w.S, "joined")
	}
}

// asModel holds Parse against the model, and tells whether no word ahead of the end may not be.
func asModel(t *testing.T, s string) bool {
	t.Helper()
	l, at, e := parse.Parse(s)
	want, wantAt, wantE := asked(s)
	if got := told(l); got != want || at != wantAt || e != wantE {
		t.Fatalf("%s: %s, %d, %d; must be %s, %d, %d", s, got, at, e, want, wantAt, wantE)
	}
	return e == api.OK || at == len(s)
}

var someWords = []string{".", "(", ")", ",", "[", "]", "1", "'('", "true", "x", "eq", "between", "within", "and", "negate", "__", "g"}

// goOn tries all words behind a text, and so on, so far.
func goOn(t *testing.T, s string, far int) int {
	n := 1
	if !asModel(t, s) || far == 0 {
		return n
	}
	for _, w := range someWords {
		n += goOn(t, s+" "+w, far-1)
	}
	return n
}

// TestAllWords: all rows of some words, behind beginnings of all kinds.
func TestAllWords(t *testing.T) {
	const far = 5
	n := goOn(t, "", far)
	for _, s := range []string{
		"g.", "g.x(", "g.x(1", "g.x([", "g.x([1", "g.x(eq(", "g.x(eq(1", "g.x(between(1,", "g.x(within(1", "g.x(eq(1)", "g.x(eq(1).", "g.x(eq(1).and(", "g.x(eq(1).and(lt(2)", "g.x(eq(1).negate(", "g.x(__", "g.x(__.", "g.x(y(", "g.x(y()", "g.x(y(1).z(", "g.x()", "g.x().",
		"g.x(" + times(11, "1,"), "g.x([" + times(11, "1,"), "g.x(within(" + times(11, "1,"), "g.x(" + times(10, "x,") + "eq(1",
		"g" + times(149, ".x()"), "g" + times(148, ".x()") + ".x(", "g" + times(148, ".x()") + ".x(__.",
		"g.x(" + times(11, "["), "g.x(" + times(10, "[") + "1,", "g.x(" + times(11, "x("), "g.x(" + times(10, "x("), "g.x(eq(1)" + times(10, ".and(eq(1))"), "g.x(" + times(10, "x(") + "eq(1)", "g.x(" + times(10, "eq(1).or("), "g.x(" + times(9, "x(") + "eq(1).negate()",
	} {
		n += goOn(t, s, far)
	}
	t.Log(n, "texts")
}

// writer writes texts by chance, most of which may be.
type writer struct {
	r *rand.Rand
	l []string
}

func (w *writer) put(l ...string) { w.l = append(w.l, l...) }

func (w *writer) pick(l ...string) string { return l[w.r.Intn(len(l))] }

// some writes up to so many, and now and then just as many as may be.
func (w *writer) some(most int, write func()) {
	n := w.r.Intn(most + 1)
	if w.r.Intn(40) == 0 {
		n = 11 + w.r.Intn(3)
	}
	for i := range n {
		if i > 0 {
			w.put(",")
		}
		write()
	}
}

func (w *writer) value(deep int) {
	if deep > 0 && w.r.Intn(3) == 0 {
		w.put("[")
		w.some(3, func() { w.value(deep - 1) })
		w.put("]")
		return
	}
	w.put(w.pick("0", "-1", "17", "f'3ff0000000000000'", "'a'", "''", "'\\x00 '", "true", "false", "null"))
}

func (w *writer) pred(deep int) {
	name := w.pick("eq", "lte", "containing", "between", "outside", "within", "without")
	w.put(name, "(")
	if n := numbers[name]; n == -1 {
		w.some(3, func() { w.value(deep - 1) })
	} else {
		for i := range n {
			if i > 0 {
				w.put(",")
			}
			w.value(deep - 1)
		}
	}
	w.put(")")
	for deep > 0 && w.r.Intn(2) == 0 {
		deep--
		w.put(".")
		if w.r.Intn(3) == 0 {
			w.put("negate", "(", ")")
			continue
		}
		w.put(w.pick("and", "or"), "(")
		w.pred(deep - 1)
		w.put(")")
	}
}

func (w *writer) arg(deep int) {
	switch n := w.r.Intn(6); {
	case n < 2 || deep <= 0:
		w.value(deep)
	case n == 2:
		w.put(w.pick("x", "asc", "single", "eq", "and", "g"))
	case n == 3:
		w.pred(deep)
	default:
		if w.r.Intn(2) == 0 {
			w.put("__", ".")
		}
		w.steps(deep - 1)
	}
}

func (w *writer) steps(deep int) {
	for i := range 1 + w.r.Intn(3) {
		if i > 0 {
			w.put(".")
		}
		w.put(w.pick("V", "out", "where", "has", "and", "g"), "(")
		w.some(3, func() { w.arg(deep) })
		w.put(")")
	}
}

// text is the words with spaces here and there.
func (w *writer) text() string {
	var b strings.Builder
	for i, s := range w.l {
		// Two names, or numbers, or texts would else be one word.
		if i > 0 && (w.r.Intn(6) == 0 || !strings.ContainsAny(s[:1]+w.l[i-1][:1], ".(),[]")) {
			b.WriteByte(' ')
		}
		b.WriteString(s)
	}
	return b.String()
}

// spoil lets a word go, or lays another one in its place or ahead of it.
func (w *writer) spoil() {
	if len(w.l) == 0 {
		return
	}
	at := w.r.Intn(len(w.l))
	switch w.r.Intn(3) {
	case 0:
		w.l = slices.Delete(w.l, at, at+1)
	case 1:
		w.l[at] = w.pick(someWords...)
	default:
		w.l = slices.Insert(w.l, at, w.pick(someWords...))
	}
}

// TestChance: texts by fixed seeds, whole ones and spoilt ones.
func TestChance(t *testing.T) {
	whole := 0
	for seed := range 6000 {
		w := &writer{r: rand.New(rand.NewSource(int64(seed)))}
		w.put("g", ".")
		w.steps(seed % 15)
		if _, _, e := parse.Parse(w.text()); e == api.OK {
			whole++
		}
		for range 8 {
			asModel(t, w.text())
			w.spoil()
		}
	}
	if whole < 2000 {
		t.Error(whole, "texts that may be: too few to tell of them")
	}
}
