package check_test

import (
	"strings"
	"testing"

	"offshoot/api"
	"offshoot/check"
	"offshoot/parse"
	"offshoot/show"
	"offshoot/val"
)

// What steps are made of.
func step(name string, l ...api.Arg) api.Step { return api.Step{Name: name, Args: l} }
func value(v api.Value) api.Arg               { return api.Arg{Kind: api.ArgValue, V: v} }
func name(s string) api.Arg                   { return value(val.Text(s)) }
func word(s string) api.Arg                   { return api.Arg{Kind: api.ArgWord, V: val.Text(s)} }
func such(p api.Pred) api.Arg                 { return api.Arg{Kind: api.ArgPred, P: p} }
func trav(l ...api.Step) api.Arg              { return api.Arg{Kind: api.ArgTrav, T: l} }

func times(n int, s string) string { return strings.Repeat(s, n) }

func short(s string) string {
	if len(s) > 200 {
		return s[:140] + " .. " + s[len(s)-50:]
	}
	return s
}

// steps is a text's steps.
func steps(t *testing.T, s string) []api.Step {
	t.Helper()
	l, at, e := parse.Parse(s)
	if e != api.OK {
		t.Fatalf("%s: is not parsed: %d, %d", s, at, e)
	}
	return l
}

// is asks for the error of steps.
func is(t *testing.T, want api.Errno, l ...api.Step) {
	t.Helper()
	if e := check.Check(l); e != want {
		t.Errorf("%s: %d; must be %d", short(show.Query(l)), e, want)
	}
}

// are asks for the error of each of some texts.
func are(t *testing.T, want api.Errno, texts ...string) {
	t.Helper()
	for _, s := range texts {
		is(t, want, steps(t, s)...)
	}
}

// inner asks for the error of chains within a step, alone and within one another; as no text begins with them, they may be what begins none.
func inner(t *testing.T, want api.Errno, chains ...string) {
	t.Helper()
	for _, s := range chains {
		are(t, want, "g.V().where("+s+")", "g.V().where(__."+s+").out()", "g.V().union(id(),"+s+",label())", "g.V().order().by("+s+", desc)", "g.V().repeat("+s+").emit()", "g.V().addE('a').to("+s+")", "g.V().where(where("+s+"))", "g.V().where(out().repeat(out()).until("+s+"))")
	}
}
