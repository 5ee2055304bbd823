package val_test

import (
	"math"
	"slices"
	"testing"

	"offshoot/api"
	"offshoot/val"
)

func TestMake(t *testing.T) {
	for _, c := range []struct {
		name string
		v, w api.Value
	}{
		{"None", val.None(), api.Value{Kind: 0}},
		{"Yes(true)", val.Yes(true), api.Value{Kind: 1, B: true}},
		{"Yes(false)", val.Yes(false), api.Value{Kind: 1}},
		{"Int", val.Int(-7), api.Value{Kind: 2, N: -7}},
		{"Float", val.Float(1.5), api.Value{Kind: 3, F: 1.5}},
		{"Float(-0)", val.Float(minus0), api.Value{Kind: 3, F: minus0}},
		{"Float(+Inf)", val.Float(inf), api.Value{Kind: 3, F: inf}},
		{"Float of no number", val.Float(odd), api.Value{Kind: 3, F: nan}},
		{"Float of no number below 0", val.Float(math.Float64frombits(0xfff8000000000001)), api.Value{Kind: 3, F: nan}},
		{"Text", val.Text("a\x00\xff"), api.Value{Kind: 4, S: "a\x00\xff"}},
		{"Text of too many bytes", text(501), api.Value{Kind: 4, S: text(501).S}},
		{"List()", val.List(), api.Value{Kind: 5}},
		{"List", val.List(val.Int(2), val.Int(1), val.Int(2)), of(5, val.Int(2), val.Int(1), val.Int(2))},
		{"Vertex", val.Vertex(3), api.Value{Kind: 7, N: 3}},
		{"Vertex(0)", val.Vertex(0), api.Value{Kind: 7}},
		{"Edge", val.Edge(-3), api.Value{Kind: 8, N: -3}},
	} {
		if !alike(c.v, c.w) {
			t.Errorf("%s: %v", c.name, c.v)
		}
	}
}

func TestMap(t *testing.T) {
	a, b, c := val.Text("a"), val.Text("b"), val.Text("c")
	one, two, three := val.Int(1), val.Int(2), val.Int(3)
	for _, x := range []struct {
		name string
		l, w []api.Value
	}{
		{"nothing", nil, nil},
		{"a key alone", []api.Value{a}, nil},
		{"a pair", []api.Value{a, one}, []api.Value{a, one}},
		{"a last key without a value", []api.Value{a, one, b}, []api.Value{a, one}},
		{"a last key without a value that came ahead", []api.Value{a, one, a}, []api.Value{a, one}},
		{"keys that do not rise", []api.Value{c, one, a, two, b, three}, []api.Value{a, two, b, three, c, one}},
		{"a key that comes twice", []api.Value{a, one, b, two, a, three}, []api.Value{a, three, b, two}},
		{"a key that comes thrice", []api.Value{a, one, a, two, a, three}, []api.Value{a, three}},
		{"1 and the float 1 are two keys", []api.Value{val.Float(1), one, val.Int(1), two}, []api.Value{val.Int(1), two, val.Float(1), one}},
		{"-0 and 0 are two keys", []api.Value{val.Float(0), one, val.Float(minus0), two}, []api.Value{val.Float(minus0), two, val.Float(0), one}},
		{"of keys that are the same that of the first", []api.Value{{Kind: api.Float, F: odd}, one, val.Float(nan), two}, []api.Value{{Kind: api.Float, F: odd}, two}},
		{"lists as keys", []api.Value{of(5, two), one, of(5), two, of(5, one, one), three}, []api.Value{of(5), two, of(5, one, one), three, of(5, two), one}},
	} {
		was := val.Copy(of(5, x.l...)).L
		if m := val.Map(x.l...); m.Kind != api.Map || !alikeAll(m.L, x.w) {
			t.Errorf("%s: %v", x.name, m)
		}
		if !alikeAll(was, x.l) {
			t.Errorf("%s: what was handed in is %v", x.name, x.l)
		}
	}
}

// TestMapOfMany: all keys come in falling order, each twice.
func TestMapOfMany(t *testing.T) {
	var l []api.Value
	for i := range 1000 {
		l = append(l, val.Int(int64(499-i%500)), val.Int(int64(i)))
	}
	m := val.Map(l...)
	if len(m.L) != 1000 || val.Check(m) != api.OK {
		t.Fatal(len(m.L), val.Check(m))
	}
	for i := range 500 {
		if m.L[2*i].N != int64(i) || m.L[2*i+1].N != int64(999-i) {
			t.Errorf("%d: %v, %v", i, m.L[2*i], m.L[2*i+1])
		}
	}
}

// TestOwn: what is made shares no list with what was handed in, nor one with another.
func TestOwn(t *testing.T) {
	inner := of(api.List, val.Int(1))
	l := []api.Value{inner, inner}
	wild := api.Value{Kind: api.Str, L: l}
	for _, c := range []struct {
		name string
		v    api.Value
	}{
		{"List", val.List(l...)}, {"Map", val.Map(l...)}, {"Copy", val.Copy(of(api.List, l...))}, {"Copy of no list", val.Copy(wild)},
		{"Copy, deep", val.Copy(of(api.Map, l...))},
	} {
		c.v.L[0].L[0].N = 5
		if c.v.L[1].L[0].N != 1 || inner.L[0].N != 1 {
			t.Errorf("%s shares", c.name)
		}
		inner.L[0].N = 7
		if c.v.L[0].L[0].N != 5 || c.v.L[1].L[0].N != 1 {
			t.Errorf("%s shares with what was handed in", c.name)
		}
		inner.L[0].N = 1
		c.v.L[1] = val.None()
		if l[1].Kind != api.List {
			t.Errorf("%s shares the list that was handed in", c.name)
		}
	}
	m := val.Map(val.Int(1), inner, val.Int(1), inner)
	m.L[1].L[0].N = 5
	if inner.L[0].N != 1 {
		t.Error("Map shares a value that comes in another one's place")
	}
}

func TestCopy(t *testing.T) {
	wild := api.Value{Kind: -4, B: true, N: 5, F: odd, S: "s", L: []api.Value{val.Edge(0)}}
	for _, v := range append(ordered(), wild, of(api.List, wild, wild), val.Vertex(0), within(100, wild)) {
		if !alike(val.Copy(v), v) {
			t.Errorf("%v: %v", v, val.Copy(v))
		}
	}
}

// ordered has values in their order, all of them different.
func ordered() []api.Value {
	i, f, s := val.Int, val.Float, val.Text
	return []api.Value{
		{Kind: -1, N: -5}, {Kind: -1, N: 5},
		val.None(), val.Yes(false), val.Yes(true),
		f(-inf), f(-1 << 63), i(math.MinInt64 + 1), f(-2), i(-1), f(-1), f(-0.5), f(minus0), i(0), f(0), f(5e-324), f(0.5), i(1), f(1), i(2),
		i(1 << 53), f(1 << 53), i(1<<53 + 1), f(1<<53 + 2), i(math.MaxInt64 - 1), i(math.MaxInt64), f(1 << 63), f(inf), f(nan),
		s(""), s("\x00"), s("B"), s("a"), s("a\x00"), s("aa"), s("b"), s("\xff"),
		of(5), of(5, val.None()), of(5, val.None(), val.None()), of(5, i(1)), of(5, i(1), i(5)), of(5, f(1)), of(5, i(2)), of(5, s("")), of(5, of(5)), of(5, of(5, i(1)), i(0)), of(5, val.Edge(9)),
		of(6), of(6, i(1), i(1)), of(6, i(1), i(1), i(2), i(0)), of(6, i(1), i(2)), of(6, i(2), i(0)),
		val.Vertex(-1), val.Vertex(1), val.Vertex(2), val.Vertex(math.MaxInt64), val.Edge(1), val.Edge(2),
		{Kind: 9, N: -1}, {Kind: 9}, {Kind: 1000, N: -9},
	}
}

func sign(n int) int { return max(-1, min(1, n)) }

func TestCmp(t *testing.T) {
	l := ordered()
	for i, a := range l {
		for k, b := range l {
			if c := val.Cmp(a, b); sign(c) != sign(i-k) {
				t.Errorf("Cmp(%v, %v): %d", a, b, c)
			}
			if val.Same(a, b) != (i == k) {
				t.Errorf("Same(%v, %v)", a, b)
			}
		}
	}
}

func TestExample(t *testing.T) {
	if val.Cmp(val.Float(1), val.Int(1)) <= 0 || val.Cmp(val.Int(1), val.Float(1)) >= 0 || val.Same(val.Int(1), val.Float(1)) {
		t.Error("the float 1 is above the int64 1")
	}
}

// TestSame: only what a value's kind has counts.
func TestSame(t *testing.T) {
	full := api.Value{B: true, N: 5, F: 2.5, S: "s", L: []api.Value{val.Int(1)}}
	for _, c := range []struct {
		kind int
		bare api.Value
	}{
		{api.Null, api.Value{N: 5}}, {api.Bool, val.Yes(true)}, {api.Int, val.Int(5)}, {api.Float, val.Float(2.5)}, {api.Str, val.Text("s")},
		{api.List, of(5, val.Int(1))}, {api.Map, of(6, val.Int(1))}, {api.Vertex, val.Vertex(5)}, {api.Edge, val.Edge(5)}, {77, api.Value{N: 5}},
	} {
		full.Kind, c.bare.Kind = c.kind, c.kind
		if !val.Same(full, c.bare) || val.Cmp(c.bare, full) != 0 {
			t.Errorf("kind %d", c.kind)
		}
	}
	if !val.Same(api.Value{Kind: api.Float, F: odd}, val.Float(nan)) {
		t.Error("all that are no number are one")
	}
	if !val.Same(api.Value{Kind: api.List, L: []api.Value{}}, val.List()) {
		t.Error("a list that is empty and one that is nil are the same")
	}
}

// TestSort: the order is one for lists of all values, too.
func TestSort(t *testing.T) {
	var l []api.Value
	for _, a := range ordered() {
		for _, b := range ordered() {
			l = append(l, of(api.List, a, b))
		}
	}
	if !slices.IsSortedFunc(l, val.Cmp) {
		t.Error("lists of two are not ordered by the first part, then by the second")
	}
}

func TestDeepLists(t *testing.T) {
	a, b := within(1<<16-2, val.Int(1)), within(1<<16-2, val.Int(2))
	if val.Cmp(a, b) >= 0 || !val.Same(a, val.Copy(a)) || val.Check(a) != api.ErrMost {
		t.Error("lists of 2^16 levels")
	}
}
