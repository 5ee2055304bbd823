package code_test

import (
	"fmt"
	"math"
	"slices"
	"strings"
	"testing"

	"offshoot/api"
	"offshoot/code"
	"offshoot/parse"
	"offshoot/show"
	"offshoot/val"
)

// What steps are made of.
func step(name string, l ...api.Arg) api.Step { return api.Step{Name: name, Args: l} }
func value(v api.Value) api.Arg               { return api.Arg{Kind: api.ArgValue, V: v} }
func name(s string) api.Arg                   { return value(val.Text(s)) }
func number(n int64) api.Arg                  { return value(val.Int(n)) }
func word(s string) api.Arg                   { return api.Arg{Kind: api.ArgWord, V: val.Text(s)} }
func such(p api.Pred) api.Arg                 { return api.Arg{Kind: api.ArgPred, P: p} }
func trav(l ...api.Step) api.Arg              { return api.Arg{Kind: api.ArgTrav, T: l} }

func times(n int, s string) string { return strings.Repeat(s, n) }

func short(s string) string {
	if len(s) > 400 {
		return s[:300] + " .. " + s[len(s)-90:]
	}
	return s
}

// told is a program as a text: bodies with / between them, instructions with ; between them, each its number and what it has.
func told(p api.Prog) string {
	var bodies []string
	for _, b := range p.Bodies {
		var l []string
		for _, in := range b {
			l = append(l, toldIns(in))
		}
		bodies = append(bodies, strings.Join(l, "; "))
	}
	return strings.Join(bodies, " / ")
}

func toldIns(in api.Ins) string {
	s := fmt.Sprint(in.Op)
	if len(in.S) > 0 {
		s += " S=" + strings.Join(in.S, ",")
	}
	if len(in.N) > 0 {
		s += " N=" + row(in.N)
	}
	if len(in.V) > 0 {
		s += " V=" + show.Value(api.Value{Kind: api.List, L: in.V})
	}
	if in.P.Op != "" || len(in.P.L) > 0 || len(in.P.Kids) > 0 {
		s += " P=" + show.Pred(in.P)
	}
	if len(in.Kids) > 0 {
		s += " K=" + row(in.Kids)
	}
	if in.Flag {
		s += " F"
	}
	return s
}

func row[T any](l []T) string {
	return strings.Trim(strings.ReplaceAll(fmt.Sprint(l), " ", ","), "[]")
}

// steps is a text's steps.
func steps(t *testing.T, s string) []api.Step {
	t.Helper()
	l, at, e := parse.Parse(s)
	if e != api.OK {
		t.Fatalf("%s: is not parsed: %d, %d", s, at, e)
	}
	return l
}

// is asks for the program of steps.
func is(t *testing.T, want string, l ...api.Step) {
	t.Helper()
	p, e := code.Compile(l)
	if got := told(p); e != api.OK || got != want {
		t.Errorf("%s: %d, %s; must be %s", short(show.Query(l)), e, short(got), short(want))
	}
}

// are asks for the programs of texts: each is a text, and its program behind it.
func are(t *testing.T, texts ...string) {
	t.Helper()
	for i := 0; i < len(texts); i += 2 {
		is(t, texts[i+1], steps(t, texts[i])...)
	}
}

// not asks that there is but an error.
func not(t *testing.T, want api.Errno, l ...api.Step) {
	t.Helper()
	p, e := code.Compile(l)
	if e != want || p.Bodies != nil {
		t.Errorf("%s: %d, %s; must be %d, and nothing", short(show.Query(l)), e, short(told(p)), want)
	}
}

// alike tells whether programs are so, by all their fields.
func alike(a, b api.Prog) bool {
	return slices.EqualFunc(a.Bodies, b.Bodies, func(x, y []api.Ins) bool { return slices.EqualFunc(x, y, alikeIns) })
}

func alikeIns(a, b api.Ins) bool {
	return a.Op == b.Op && slices.Equal(a.S, b.S) && slices.Equal(a.N, b.N) && slices.EqualFunc(a.V, b.V, alikeValue) &&
		alikePred(a.P, b.P) && slices.Equal(a.Kids, b.Kids) && a.Flag == b.Flag
}

func alikePred(a, b api.Pred) bool {
	return a.Op == b.Op && slices.EqualFunc(a.L, b.L, alikeValue) && slices.EqualFunc(a.Kids, b.Kids, alikePred)
}

// alikeValue holds floats bit for bit, as -0 is not 0, and what is no number is itself.
func alikeValue(a, b api.Value) bool {
	return a.Kind == b.Kind && a.B == b.B && a.N == b.N && math.Float64bits(a.F) == math.Float64bits(b.F) && a.S == b.S && slices.EqualFunc(a.L, b.L, alikeValue)
}
