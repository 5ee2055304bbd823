package parse_test

import (
	"fmt"
	"math"
	"strconv"
	"strings"
	"testing"

	"offshoot/api"
	"offshoot/parse"
	"offshoot/val"
)

// What steps are made of.
func step(name string, l ...api.Arg) api.Step { return api.Step{Name: name, Args: l} }
func value(v api.Value) api.Arg               { return api.Arg{Kind: api.ArgValue, V: v} }
func word(s string) api.Arg                   { return api.Arg{Kind: api.ArgWord, V: val.Text(s)} }
func such(p api.Pred) api.Arg                 { return api.Arg{Kind: api.ArgPred, P: p} }
func trav(l ...api.Step) api.Arg              { return api.Arg{Kind: api.ArgTrav, T: l} }

func pred(op string, l ...api.Value) api.Pred { return api.Pred{Op: op, L: l} }
func join(op string, l ...api.Pred) api.Pred  { return api.Pred{Op: op, Kids: l} }

func sevens(n int) []api.Value {
	var l []api.Value
	for range n {
		l = append(l, val.Int(7))
	}
	return l
}

func values(l []api.Value) []api.Arg {
	var out []api.Arg
	for _, v := range l {
		out = append(out, value(v))
	}
	return out
}

func times(n int, s string) string { return strings.Repeat(s, n) }

// row is n things with commas between them.
func row(n int, s string) string { return strings.TrimSuffix(times(n, s+","), ",") }

// nested is a text of n things within one another.
func nested(n int, open, mid, end string) string { return times(n, open) + mid + times(n, end) }

func short(s string) string {
	if len(s) > 160 {
		return s[:100] + " .. " + s[len(s)-50:]
	}
	return s
}

// told tells steps in one way for each: parts first, and then what they are parts of, with how many these are.
func told(l []api.Step) string {
	var b strings.Builder
	tellSteps(&b, l)
	return b.String()
}

func tellSteps(b *strings.Builder, l []api.Step) {
	for _, s := range l {
		for _, a := range s.Args {
			tellArg(b, a)
		}
		say(b, s.Name, len(s.Args))
	}
}

func say(b *strings.Builder, s string, n int) { fmt.Fprintf(b, "%s:%d ", s, n) }

func tellArg(b *strings.Builder, a api.Arg) {
	has := 0
	switch a.Kind {
	case api.ArgValue:
		tellValue(b, a.V)
		say(b, "value", 1)
		has = 1
	case api.ArgWord:
		tellValue(b, a.V)
		say(b, "word", 1)
		has = 1
	case api.ArgPred:
		tellPred(b, a.P)
		say(b, "pred", 1)
		has = 2
	case api.ArgTrav:
		tellSteps(b, a.T)
		say(b, "trav", len(a.T))
		has = 4
	}
	// Nothing else may be there.
	if has != 1 && (a.V.Kind != 0 || a.V.L != nil) || has != 2 && (a.P.Op != "" || a.P.L != nil || a.P.Kids != nil) || has != 4 && a.T != nil {
		say(b, "and more", a.Kind)
	}
}

func tellPred(b *strings.Builder, p api.Pred) {
	for _, k := range p.Kids {
		tellPred(b, k)
	}
	for _, v := range p.L {
		tellValue(b, v)
	}
	say(b, p.Op, len(p.Kids)+len(p.L))
}

func tellValue(b *strings.Builder, v api.Value) {
	if val.Check(v) != api.OK {
		say(b, "none that may be", v.Kind)
	}
	switch v.Kind {
	case api.List:
		for _, x := range v.L {
			tellValue(b, x)
		}
		say(b, "list", len(v.L))
	default:
		b.WriteString(tellPlain(v))
	}
}

func tellPlain(v api.Value) string {
	switch v.Kind {
	case api.Null:
		return "null "
	case api.Bool:
		return strconv.FormatBool(v.B) + " "
	case api.Int:
		return strconv.FormatInt(v.N, 10) + " "
	case api.Float:
		return fmt.Sprintf("f%x ", math.Float64bits(v.F))
	case api.Str:
		return strconv.Quote(v.S) + " "
	}
	return "? "
}

// must asks for the steps of a text.
func must(t *testing.T, s string, want ...api.Step) {
	t.Helper()
	if l, at, e := parse.Parse(s); told(l) != told(want) || at != 0 || e != api.OK {
		t.Errorf("%s: %s, %d, %d; must be %s", short(s), told(l), at, e, told(want))
	}
}

// may asks that a text may be.
func may(t *testing.T, s string) {
	t.Helper()
	if l, at, e := parse.Parse(s); len(l) == 0 || at != 0 || e != api.OK {
		t.Errorf("%s: %d steps, %d, %d; must be some", short(s), len(l), at, e)
	}
}

// mustNot asks for the error of a text in which a ^ stands ahead of the word that is told.
func mustNot(t *testing.T, s string, want api.Errno) {
	t.Helper()
	place := strings.IndexByte(s, '^')
	if place < 0 || strings.Count(s, "^") != 1 {
		t.Fatalf("%s: no place to ask for", s)
	}
	whole := s[:place] + s[place+1:]
	if l, at, e := parse.Parse(whole); l != nil || at != place || e != want {
		t.Errorf("%s: %d steps, %d, %d; must be %d, %d", short(s), len(l), at, e, place, want)
	}
}
