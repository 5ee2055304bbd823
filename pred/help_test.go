package pred_test

import (
	"math"
	"slices"
	"strings"
	"testing"

	"offshoot/api"
	"offshoot/parse"
	"offshoot/pred"
	"offshoot/show"
	"offshoot/val"
)

// What predicates are made of.
func of(op string, l ...api.Value) api.Pred  { return api.Pred{Op: op, L: l} }
func join(op string, l ...api.Pred) api.Pred { return api.Pred{Op: op, Kids: l} }
func list(l ...api.Value) api.Value          { return api.Value{Kind: api.List, L: l} }
func sevens(n int) []api.Value               { return slices.Repeat([]api.Value{val.Int(7)}, n) }
func times(n int, s string) string           { return strings.Repeat(s, n) }
func yes() api.Pred                          { return of("without") }
func no() api.Pred                           { return of("within") }
func nots(n int, p api.Pred) api.Pred        { return around(n, "not", p) }
func around(n int, op string, p api.Pred, more ...api.Pred) api.Pred {
	for range n {
		p = join(op, append([]api.Pred{p}, more...)...)
	}
	return p
}

// behind is p as the second one of n predicates within one another.
func behind(n int, op string, ahead, p api.Pred) api.Pred {
	for range n {
		p = join(op, ahead, p)
	}
	return p
}

func short(s string) string {
	if len(s) > 300 {
		return s[:200] + " .. " + s[len(s)-90:]
	}
	return s
}

// may asks whether predicates may be.
func may(t *testing.T, want bool, l ...api.Pred) {
	t.Helper()
	for _, p := range l {
		if got := pred.Check(p); got != want {
			t.Errorf("%s: may be: %v; must be %v", short(show.Pred(p)), got, want)
		}
	}
}

// parsed is the predicate that a text tells.
func parsed(t *testing.T, s string) api.Pred {
	t.Helper()
	l, at, e := parse.Parse("g.is(" + s + ")")
	if e != api.OK || l[0].Args[0].Kind != api.ArgPred {
		t.Fatalf("%s: is not parsed to a predicate: %d, %d", short(s), at, e)
	}
	return l[0].Args[0].P
}

// such asks of values whether they are such, by a predicate that is told as a text.
func such(t *testing.T, want bool, text string, l ...api.Value) {
	t.Helper()
	holds(t, want, parsed(t, text), l...)
}

func holds(t *testing.T, want bool, p api.Pred, l ...api.Value) {
	t.Helper()
	for _, v := range l {
		if got := pred.Holds(p, v); got != want {
			t.Errorf("%s of %s: %v; must be %v", short(show.Pred(p)), short(show.Value(v)), got, want)
		}
	}
}

// values are those that texts tell.
func values(t *testing.T, texts ...string) []api.Value {
	t.Helper()
	var out []api.Value
	for _, s := range texts {
		out = append(out, parsed(t, "within("+s+")").L...)
	}
	return out
}

func alikePred(a, b api.Pred) bool {
	return a.Op == b.Op && slices.EqualFunc(a.L, b.L, alikeValue) && slices.EqualFunc(a.Kids, b.Kids, alikePred)
}

// alikeValue holds floats bit for bit, as -0 is not 0, and what is no number is itself.
func alikeValue(a, b api.Value) bool {
	return a.Kind == b.Kind && a.B == b.B && a.N == b.N && math.Float64bits(a.F) == math.Float64bits(b.F) && a.S == b.S && slices.EqualFunc(a.L, b.L, alikeValue)
}
