package show_test

import (
	"math"
	"math/rand"
	"strings"
	"testing"

	"offshoot/api"
	"offshoot/lex"
	"offshoot/parse"
	"offshoot/show"
)

func TestAgain(t *testing.T) {
	for s, want := range map[string]string{
		"g.V()":                            "g.V()",
		" g . V ( ) . out ( 'a' , 'b' ) ":  "g.V().out('a', 'b')",
		"g.V(1).has('a',gt(1).and(lt(5)))": "g.V(1).has('a', gt(1).and(lt(5)))",
		"g.V(out())":                       "g.V(__.out())",
		"g.V(__.out())":                    "g.V(__.out())",
		"g.V(out().in(x,both()),__.a())":   "g.V(__.out().in(x, __.both()), __.a())",
		"g.V(__.eq(1))":                    "g.V(__.eq(1))",
		"g.V(eq(1),eq)":                    "g.V(eq(1), eq)",
		"g.V(__.true(),true)":              "g.V(__.true(), true)",
		"g.V(__(1).__())":                  "g.V(__.__(1).__())",
		"g.null().g().and(and,or,negate)":  "g.null().g().and(and, or, negate)",
		"g.V([],[[ ]],[1,'[',null])":       "g.V([], [[]], [1, '[', null])",
		"g.V(f'7ff8000000000001',f'8000000000000000',f'fff0000000000000')":  "g.V(f'7ff8000000000001', f'8000000000000000', f'fff0000000000000')",
		`g.V('\x41\x00\'\\\xff\x27','')`:                                    `g.V('A\x00\'\\\xff\'', '')`,
		"g.V(-9223372036854775808,9223372036854775807,false)":               "g.V(-9223372036854775808, 9223372036854775807, false)",
		"g.V(eq(1).and(lt(2)).or(within(1,[2])).negate())":                  "g.V(eq(1).and(lt(2)).or(within(1, [2])).negate())",
		"g.V(eq(1).and(lt(2).or(within(1,[2])).negate()))":                  "g.V(eq(1).and(lt(2).or(within(1, [2])).negate()))",
		"g.V(eq(1).negate().and(between(2,3).negate().or(eq(4))).negate())": "g.V(eq(1).negate().and(between(2, 3).negate().or(eq(4))).negate())",
	} {
		again(t, s, want)
	}
}

// As much, and as deep, as parse lets be.
func TestAgainMost(t *testing.T) {
	most := row(12, "1")
	for _, s := range []string{
		"g.x(" + most + ")", "g.x([" + most + "],within(" + most + "))", "g.x(" + row(12, "__.y()") + ")",
		"g" + times(150, ".x()"), "g.x(" + strings.TrimSuffix(times(12, "__.x("), "(") + "()" + times(12, ")"), "g.x(" + times(12, "[") + times(12, "]") + ")",
		"g.x(eq(1)" + times(12, ".negate()") + ")", "g.x(eq(1)" + times(11, ".and(eq(1))") + ")", "g.x(" + times(11, "eq(1).or(") + "eq(1)" + times(11, ")") + ")",
		"g.x(" + times(11, "__.x(") + "eq(1))" + times(11, ")"), "g.x(" + times(10, "__.x(") + "eq(1).negate())" + times(10, ")"),
		"g.x(" + row(6, "'"+times(480, "a")+"'") + ")", "g.x(" + row(6, "'"+times(120, `\x00`)+"'") + ")", "g.aaaaaaaaaaaaaaaa()",
	} {
		again(t, s, spread(s))
	}
}

// told is what Query tells of a text, which must be as it should.
func told(t *testing.T, s, want string) string {
	t.Helper()
	l, at, e := parse.Parse(s)
	got := show.Query(l)
	if e != api.OK || got != want {
		t.Fatalf("%s: %d, %d, %s; must be %s", short(s), at, e, short(got), short(want))
	}
	return got
}

// mustNot asks that a query isn't parsed, for its length.
func mustNot(t *testing.T, s string, place int) {
	t.Helper()
	if l, at, e := parse.Parse(s); len(l) != 0 || at != place || e != api.ErrMost {
		t.Errorf("%s: %d steps, %d, %d; must be %d, %d", short(s), len(l), at, e, place, api.ErrMost)
	}
}

// Spaces behind commas may make of a text one that is too long: it is told all the same.
func TestAgainTooLong(t *testing.T) {
	text := func(n int) string {
		return "g.x(" + row(6, "'"+times(490, "a")+"'") + ",'" + times(n, "a") + "')"
	}
	again(t, text(29), spread(text(29)))
	if n := len(spread(text(29))); n != api.MostText {
		t.Error(n, "bytes: not as many as may be")
	}
	mustNot(t, told(t, text(30), spread(text(30))), api.MostText)
	mustNot(t, told(t, text(35), spread(text(35))), api.MostText)
}

// What stands ahead of traversals may make of a text one of too many words.
func TestAgainTooManyWords(t *testing.T) {
	text := func(ahead, last string) string {
		return "g" + times(4, ".x("+row(12, "["+row(12, "1")+"]")+")") + times(11, ".x("+ahead+"y())") + times(34, ".x()") + ".x(" + last + ")"
	}
	want := spread(text("__.", ""))
	again(t, text("", ""), want)
	if l, _, _ := lex.Words(want); len(l)-1 != api.MostWords {
		t.Error(len(l)-1, "words: not as many as may be")
	}
	want = spread(text("__.", "1"))
	mustNot(t, told(t, text("", "1"), want), len(want)-1)
}

// writer writes a text by chance, and beside it what must be told of it.
type writer struct {
	r          *rand.Rand
	text, want strings.Builder
}

func (w *writer) pick(l ...string) string { return l[w.r.Intn(len(l))] }

func (w *writer) put(l ...string) {
	for _, s := range l {
		w.want.WriteString(s)
		w.lay(s)
	}
}

// lay writes a word of the text alone; spaces behind it say nothing.
func (w *writer) lay(s string) {
	w.text.WriteString(s)
	if w.r.Intn(6) == 0 {
		w.text.WriteString(times(1+w.r.Intn(3), " "))
	}
}

// some writes up to so many.
func (w *writer) some(most int, write func()) { w.just(w.r.Intn(most+1), write) }

func (w *writer) just(n int, write func()) {
	for i := range n {
		if i > 0 {
			w.put(",")
			w.want.WriteByte(' ')
		}
		write()
	}
}

func (w *writer) value(deep int) {
	switch n := w.r.Intn(9); {
	case n < 3 && deep > 0:
		w.put("[")
		w.some(3, func() { w.value(deep - 1) })
		w.put("]")
	case n < 5:
		w.put(lex.Text(w.bytes()))
	case n == 5:
		w.put(lex.Number(int64(w.r.Uint64() >> w.r.Intn(64))))
	case n == 6:
		w.put(lex.Float(math.Float64frombits(w.r.Uint64())))
	default:
		w.put(w.pick("0", "-1", "true", "false", "null", "f'8000000000000000'", "f'7ff8000000000001'"))
	}
}

// bytes are some that mean something elsewhere, and any.
func (w *writer) bytes() string {
	var b strings.Builder
	for range w.r.Intn(5) {
		b.WriteString(w.pick("'", "\\", ", ", "[", ")", "__.", "a", string([]byte{byte(w.r.Intn(256))})))
	}
	return b.String()
}

func (w *writer) pred(deep int) {
	name := w.pick("eq", "lte", "containing", "between", "outside", "within", "without")
	w.put(name, "(")
	if n, _ := parse.Preds(name); n == -1 {
		w.some(3, func() { w.value(deep - 1) })
	} else {
		w.just(n, func() { w.value(deep - 1) })
	}
	w.put(")")
	for deep > 0 && w.r.Intn(2) == 0 {
		deep--
		w.put(".")
		if w.r.Intn(3) == 0 {
			w.put("negate", "(", ")")
			continue
		}
		w.put(w.pick("and", "or"), "(")
		w.pred(deep - 1)
		w.put(")")
	}
}

func (w *writer) arg(deep int) {
	switch n := w.r.Intn(6); {
	case n < 2 || deep <= 0:
		w.value(deep)
	case n == 2:
		w.put(w.pick("x", "asc", "single", "eq", "and", "g"))
	case n == 3:
		w.pred(deep)
	default:
		w.trav(deep - 1)
	}
}

// trav may do without what stands ahead, if its first step can't be taken for something else.
func (w *writer) trav(deep int) {
	w.want.WriteString("__.")
	name := w.pick("out", "and", "g", "__", "eq", "within", "true", "null")
	if _, is := parse.Preds(name); is || name == "true" || name == "null" || w.r.Intn(2) == 0 {
		w.lay("__")
		w.lay(".")
	}
	w.step(name, deep)
	w.further(deep)
}

func (w *writer) further(deep int) {
	for range w.r.Intn(3) {
		w.put(".")
		w.step(w.pick("V", "out", "where", "has", "and", "g", "eq", "false", "_9"), deep)
	}
}

func (w *writer) step(name string, deep int) {
	w.put(name, "(")
	w.some(3, func() { w.arg(deep) })
	w.put(")")
}

// TestChance: texts by fixed seeds, each told as it must be, and read again.
func TestChance(t *testing.T) {
	whole := 0
	for seed := range 6000 {
		w := &writer{r: rand.New(rand.NewSource(int64(seed)))}
		w.put("g", ".")
		w.step("V", seed%12)
		w.further(seed % 12)
		s, want := w.text.String(), w.want.String()
		l, _, e := parse.Parse(s)
		if e == api.ErrMost {
			continue
		}
		whole++
		if _, _, long := parse.Parse(want); long == api.ErrMost {
			told(t, s, want)
			continue
		}
		again(t, s, want)
		partsAre(t, l, strings.TrimPrefix(want, "g."))
	}
	if whole < 3000 {
		t.Error(whole, "texts that may be: too few to tell of them")
	}
}

// partsAre asks the other functions for the parts of steps, which must stand in what is told of all.
func partsAre(t *testing.T, l []api.Step, want string) {
	t.Helper()
	if got := show.Steps(l); got != want {
		t.Fatalf("%s; must be %s", got, want)
	}
	for _, s := range l {
		for _, a := range s.Args {
			part := ""
			switch a.Kind {
			case api.ArgValue:
				part = show.Value(a.V)
			case api.ArgPred:
				part = show.Pred(a.P)
			case api.ArgTrav:
				part = show.Steps(a.T)
			}
			if !strings.Contains(want, part) || part == "" && a.Kind != api.ArgWord {
				t.Fatalf("%s stands not in %s", part, want)
			}
		}
	}
}
