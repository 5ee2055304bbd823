package val_test

import (
	"math"
	"strings"

	"offshoot/api"
	"offshoot/val"
)

var (
	minus0 = math.Copysign(0, -1)
	inf    = math.Inf(1)
	nan    = math.Float64frombits(0x7ff8000000000001)
	odd    = math.Float64frombits(0x7ff8000000000002) // no number either, but not the one of Canon
)

// alike tells whether values are so bit for bit; an empty list is one that is nil.
func alike(a, b api.Value) bool {
	if a.Kind != b.Kind || a.B != b.B || a.N != b.N || math.Float64bits(a.F) != math.Float64bits(b.F) || a.S != b.S {
		return false
	}
	return alikeAll(a.L, b.L)
}

func alikeAll(a, b []api.Value) bool {
	if len(a) != len(b) {
		return false
	}
	for i := range a {
		if !alike(a[i], b[i]) {
			return false
		}
	}
	return true
}

// of is a value of a kind with parts, whatever they are.
func of(kind int, l ...api.Value) api.Value { return api.Value{Kind: kind, L: l} }

// within is v within so many lists.
func within(lists int, v api.Value) api.Value {
	for range lists {
		v = of(api.List, v)
	}
	return v
}

// times is a value so many times.
func times(n int, v api.Value) []api.Value {
	l := make([]api.Value, n)
	for i := range l {
		l[i] = v
	}
	return l
}

// rising has so many keys that rise, each with nothing behind it.
func rising(n int) []api.Value {
	var l []api.Value
	for i := range n {
		l = append(l, val.Int(int64(i)), val.None())
	}
	return l
}

func text(n int) api.Value { return val.Text(strings.Repeat("x", n)) }

// bytesOf is a list that has n bytes (15 at least), by texts and numbers.
func bytesOf(n int) api.Value {
	var l []api.Value
	n -= 3
	for n > 3+api.MostStr+12 {
		l = append(l, text(api.MostStr))
		n -= 3 + api.MostStr
	}
	for n > 12 {
		l = append(l, val.Int(1))
		n -= 9
	}
	return of(api.List, append(l, text(n-3))...)
}
