package show_test

import (
	"math"
	"slices"
	"strings"
	"testing"

	"offshoot/api"
	"offshoot/parse"
	"offshoot/show"
	"offshoot/val"
)

var (
	minus0 = math.Copysign(0, -1)
	inf    = math.Inf(1)
)

// What steps are made of.
func step(name string, l ...api.Arg) api.Step { return api.Step{Name: name, Args: l} }
func value(v api.Value) api.Arg               { return api.Arg{Kind: api.ArgValue, V: v} }
func word(s string) api.Arg                   { return api.Arg{Kind: api.ArgWord, V: val.Text(s)} }
func such(p api.Pred) api.Arg                 { return api.Arg{Kind: api.ArgPred, P: p} }
func trav(l ...api.Step) api.Arg              { return api.Arg{Kind: api.ArgTrav, T: l} }

func pred(op string, l ...api.Value) api.Pred { return api.Pred{Op: op, L: l} }
func join(op string, l ...api.Pred) api.Pred  { return api.Pred{Op: op, Kids: l} }

func times(n int, s string) string { return strings.Repeat(s, n) }

// row is n things with commas between them.
func row(n int, s string) string { return strings.TrimSuffix(times(n, s+","), ",") }

// spread is a row with the spaces that show has.
func spread(s string) string { return strings.ReplaceAll(s, ",", ", ") }

func short(s string) string {
	if len(s) > 160 {
		return s[:100] + " .. " + s[len(s)-50:]
	}
	return s
}

func valueIs(t *testing.T, v api.Value, want string) {
	t.Helper()
	if got := show.Value(v); got != want {
		t.Errorf("%v: %s; must be %s", v, short(got), short(want))
	}
}

func predIs(t *testing.T, p api.Pred, want string) {
	t.Helper()
	if got := show.Pred(p); got != want {
		t.Errorf("%v: %s; must be %s", p, short(got), short(want))
	}
}

// stepsAre asks Query, too, which has but the beginning ahead of it.
func stepsAre(t *testing.T, want string, l ...api.Step) {
	t.Helper()
	if got := show.Steps(l); got != want {
		t.Errorf("%v: %s; must be %s", l, short(got), short(want))
	}
	if got := show.Query(l); got != "g."+want {
		t.Errorf("%v: %s; must be g.%s", l, short(got), short(want))
	}
}

// argIs asks for an argument alone, and among others.
func argIs(t *testing.T, a api.Arg, want string) {
	t.Helper()
	stepsAre(t, "x("+want+")", step("x", a))
	stepsAre(t, "x(1, "+want+", "+want+", y)", step("x", value(val.Int(1)), a, a, word("y")))
	stepsAre(t, "x(__.y("+want+").z())", step("x", trav(step("y", a), step("z"))))
}

// again asks that a text is parsed, told as it should be, and parsed again to the same.
func again(t *testing.T, s, want string) {
	t.Helper()
	l, at, e := parse.Parse(s)
	if e != api.OK {
		t.Fatalf("%s: %d, %d", short(s), at, e)
	}
	got := show.Query(l)
	if got != want {
		t.Fatalf("%s: %s; must be %s", short(s), short(got), short(want))
	}
	m, at, e := parse.Parse(got)
	if e != api.OK || !alike(l, m) {
		t.Fatalf("%s: told as %s it is parsed to %v, %d, %d; must be %v", short(s), short(got), m, at, e, l)
	}
}

// alike tells whether steps are so, by all their fields.
func alike(a, b []api.Step) bool { return slices.EqualFunc(a, b, alikeStep) }

func alikeStep(a, b api.Step) bool {
	return a.Name == b.Name && slices.EqualFunc(a.Args, b.Args, alikeArg)
}

func alikeArg(a, b api.Arg) bool {
	return a.Kind == b.Kind && alikeValue(a.V, b.V) && alikePred(a.P, b.P) && alike(a.T, b.T)
}

func alikePred(a, b api.Pred) bool {
	return a.Op == b.Op && slices.EqualFunc(a.L, b.L, alikeValue) && slices.EqualFunc(a.Kids, b.Kids, alikePred)
}

// alikeValue holds floats bit for bit, as -0 is not 0, and what is no number is itself.
func alikeValue(a, b api.Value) bool {
	return a.Kind == b.Kind && a.B == b.B && a.N == b.N && math.Float64bits(a.F) == math.Float64bits(b.F) && a.S == b.S && slices.EqualFunc(a.L, b.L, alikeValue)
}
