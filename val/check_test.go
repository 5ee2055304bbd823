package val_test

import (
	"math"
	"testing"

	"offshoot/api"
	"offshoot/val"
)

// good has values that may be, those at the limits among them.
func good() []api.Value {
	return []api.Value{
		val.None(), val.Yes(false), val.Yes(true), val.Int(0), val.Int(math.MinInt64), val.Int(math.MaxInt64),
		val.Float(0), val.Float(minus0), val.Float(-inf), val.Float(nan), val.Float(1.5),
		val.Text(""), val.Text("\x00\xff'"), text(api.MostStr), val.Vertex(1), val.Vertex(math.MaxInt64), val.Edge(1), val.Edge(math.MaxInt64),
		of(api.List), of(api.Map), {Kind: api.List, L: []api.Value{}}, of(api.List, times(api.MostList, val.Int(1))...),
		of(api.Map, rising(api.MostList/2)...), of(api.Map, val.Int(1), val.Int(1), val.Float(1), val.Int(1)),
		of(api.Map, val.Float(minus0), val.None(), val.Int(0), val.None(), val.Float(0), val.None(), val.Float(nan), val.None()),
		within(api.MostDeep-1, val.Int(1)), within(api.MostDeep-1, of(api.List)), within(api.MostDeep-2, of(api.Map, val.Int(1), val.Int(2))),
		bytesOf(api.MostBytes), bytesOf(api.MostBytes - 1),
	}
}

func TestCheckGood(t *testing.T) {
	for i, v := range good() {
		if e := val.Check(v); e != api.OK {
			t.Errorf("%d: %d", i, e)
		}
	}
}

// TestCheckHad: a value has nothing but what its kind has.
func TestCheckHad(t *testing.T) {
	for kind := api.Null; kind <= api.Edge; kind++ {
		id := int64(0)
		if kind >= api.Vertex {
			id = 1
		}
		for _, c := range []struct {
			name string
			v    api.Value
			of   []int // kinds that have it
		}{
			{"B", api.Value{N: id, B: true}, []int{api.Bool}},
			{"N", api.Value{N: 1}, []int{api.Int, api.Vertex, api.Edge}},
			{"F", api.Value{N: id, F: 1}, []int{api.Float}},
			{"an F of -0", api.Value{N: id, F: minus0}, []int{api.Float}},
			{"an F that is no number", api.Value{N: id, F: nan}, []int{api.Float}},
			{"an F that Canon would change", api.Value{N: id, F: odd}, []int{api.Float}},
			{"S", api.Value{N: id, S: "s"}, []int{api.Str}},
			{"L", api.Value{N: id, L: []api.Value{val.Int(1), val.Int(1)}}, []int{api.List, api.Map}},
			{"an L that is empty", api.Value{N: id, L: []api.Value{}}, []int{0, 1, 2, 3, 4, 5, 6, 7, 8}},
		} {
			want := api.ErrShape
			for _, k := range c.of {
				if k == kind {
					want = api.OK
				}
			}
			c.v.Kind = kind
			if e := val.Check(c.v); e != want {
				t.Errorf("kind %d with %s: %d", kind, c.name, e)
			}
		}
	}
}

// bad has values that may not be, each with its error.
func bad() []struct {
	name string
	v    api.Value
	e    api.Errno
} {
	none := api.Value{Kind: 9}
	return []struct {
		name string
		v    api.Value
		e    api.Errno
	}{
		{"a kind above all", none, api.ErrShape},
		{"a kind below all", api.Value{Kind: -1}, api.ErrShape},
		{"a kind whose byte is one", api.Value{Kind: 256}, api.ErrShape},
		{"the vertex 0", val.Vertex(0), api.ErrShape},
		{"the vertex -1", val.Vertex(-1), api.ErrShape},
		{"the edge 0", val.Edge(0), api.ErrShape},
		{"the edge below all", val.Edge(math.MinInt64), api.ErrShape},
		{"a text too long", text(api.MostStr + 1), api.ErrMost},
		{"a list too long", of(api.List, times(api.MostList+1, val.None())...), api.ErrMost},
		{"a map too long", of(api.Map, rising(api.MostList/2+1)...), api.ErrMost},
		{"too deep", within(api.MostDeep, val.Int(1)), api.ErrMost},
		{"too deep by a list", within(api.MostDeep, of(api.List)), api.ErrMost},
		{"a map too deep", within(api.MostDeep-1, of(api.Map, val.Int(1), val.Int(1))), api.ErrMost},
		{"keys that fall", of(api.Map, val.Int(2), val.None(), val.Int(1), val.None()), api.ErrShape},
		{"a key twice", of(api.Map, val.Int(1), val.None(), val.Int(1), val.None()), api.ErrShape},
		{"a key twice, later", of(api.Map, val.Int(1), val.None(), val.Int(2), val.None(), val.Int(2), val.None()), api.ErrShape},
		{"two that are no number", of(api.Map, val.Float(nan), val.None(), api.Value{Kind: api.Float, F: odd}, val.None()), api.ErrShape},
		{"the float 1 ahead of 1", of(api.Map, val.Float(1), val.None(), val.Int(1), val.None()), api.ErrShape},
		{"0 ahead of -0", of(api.Map, val.Int(0), val.None(), val.Float(minus0), val.None()), api.ErrShape},
		{"a key without a value", of(api.Map, val.Int(1)), api.ErrShape},
		{"a last key without a value", of(api.Map, val.Int(1), val.Int(1), val.Int(2)), api.ErrShape},
		{"a list within a map's value", of(api.Map, val.Int(1), of(api.List, val.Edge(0))), api.ErrShape},
		{"a map's key", of(api.Map, val.Edge(0), val.Int(1)), api.ErrShape},
		{"a byte too many", bytesOf(api.MostBytes + 1), api.ErrMost},
		{"bytes too many by far", api.Value{Kind: api.Str, S: string(make([]byte, 1<<20))}, api.ErrMost},
		// Of several the one that is named first, from outside in, part by part.
		{"bytes ahead of shape", of(api.List, append(bytesOf(api.MostBytes).L, none)...), api.ErrMost},
		{"bytes ahead of a list's shape", api.Value{Kind: api.List, B: true, L: bytesOf(api.MostBytes + 1).L}, api.ErrMost},
		{"bytes ahead of a text's shape", api.Value{Kind: api.Str, S: text(api.MostBytes).S, N: 1}, api.ErrMost},
		{"deep ahead of shape", within(api.MostDeep, none), api.ErrMost},
		{"shape ahead of deep", api.Value{Kind: api.List, N: 1, L: []api.Value{within(api.MostDeep, val.Int(1))}}, api.ErrShape},
		{"shape ahead of long", api.Value{Kind: api.Str, S: text(501).S, N: 1}, api.ErrShape},
		{"a list's shape ahead of long", api.Value{Kind: api.List, F: minus0, L: times(1001, val.None())}, api.ErrShape},
		{"a text that an int64 has", api.Value{Kind: api.Int, S: text(501).S}, api.ErrShape},
		{"long ahead of a part's shape", of(api.List, append([]api.Value{none}, times(1000, val.None())...)...), api.ErrMost},
		{"long ahead of keys", of(api.Map, times(1001, val.None())...), api.ErrMost},
		{"the first part: shape", of(api.List, none, text(501)), api.ErrShape},
		{"the first part: long", of(api.List, text(501), none), api.ErrMost},
		{"within the first part", of(api.List, of(api.List, none), text(501)), api.ErrShape},
		{"parts ahead of keys", of(api.Map, val.Int(2), val.None(), val.Int(1), text(501)), api.ErrMost},
		{"parts ahead of a key without a value", of(api.Map, text(501)), api.ErrMost},
	}
}

func TestCheckBad(t *testing.T) {
	for _, c := range bad() {
		if e := val.Check(c.v); e != c.e {
			t.Errorf("%s: %d, must be %d", c.name, e, c.e)
		}
		if s, e := val.Put(c.v); s != "" || e != c.e {
			t.Errorf("Put, %s: %d bytes, %d", c.name, len(s), e)
		}
	}
}

// TestCheckBytes: a kind that is none counts nine bytes, whatever it has; a kind without parts those of its own.
func TestCheckBytes(t *testing.T) {
	for _, c := range []struct {
		name string
		v    api.Value
		n    int // bytes
	}{
		{"none", val.None(), 1}, {"bool", val.Yes(true), 2}, {"int", val.Int(1), 9}, {"float", val.Float(1), 9}, {"text", val.Text("abc"), 6},
		{"list", of(api.List, val.Int(1), val.None()), 13}, {"map", of(api.Map, val.Int(1), val.None()), 13}, {"vertex", val.Vertex(1), 9}, {"edge", val.Edge(1), 9},
		{"no kind", api.Value{Kind: 9}, 9}, {"no kind, with more", api.Value{Kind: -1, S: text(501).S, L: times(5, val.Int(1))}, 9},
		{"an int with more", api.Value{Kind: api.Int, S: text(501).S, L: times(5, val.Int(1))}, 9},
	} {
		free := api.MostBytes - c.n
		fits, over := of(api.List, append(bytesOf(free).L, c.v)...), of(api.List, append(bytesOf(free+1).L, c.v)...)
		if e, want := val.Check(fits), val.Check(c.v); e != want {
			t.Errorf("%s: %d, must be %d", c.name, e, want)
		}
		if e := val.Check(over); e != api.ErrMost {
			t.Errorf("%s, a byte more: %d", c.name, e)
		}
	}
}

// TestCheckEnds: lists that share their parts have more bytes than can be counted one by one.
func TestCheckEnds(t *testing.T) {
	v := val.Int(1)
	for range 200 {
		v = of(api.List, v, v)
	}
	if e := val.Check(v); e != api.ErrMost {
		t.Error(e)
	}
	if s, e := val.Put(v); s != "" || e != api.ErrMost {
		t.Error(e)
	}
	round := make([]api.Value, 1)
	round[0] = of(api.List, round...)
	round[0].L = round
	if e := val.Check(round[0]); e != api.ErrMost {
		t.Error(e)
	}
}
