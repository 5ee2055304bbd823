package graph_test

import (
	"math"
	"slices"
	"strings"
	"testing"
	"unsafe"

	"offshoot/api"
	"offshoot/graph"
	"offshoot/tx"
	"offshoot/val"
)

// TestArcs: directions, labels, and an edge that leads to its own vertex.
func TestArcs(t *testing.T) {
	g := graph.New(tx.New(nil))
	for range 4 {
		node(t, g, "n")
	}
	for _, c := range []struct {
		label    string
		from, to int64
	}{
		{"z", 1, 2}, {"a", 1, 2}, {"a", 2, 1}, {"a", 1, 1}, {"m", 3, 1}, {"aa", 1, 3}, {"z", 1, 1}, {"a", 1, 2}, {"a", 2, 3}, {"z", 3, 1},
	} {
		arc(t, g, c.label, c.from, c.to)
	}
	for _, c := range []struct {
		id        int64
		labels    []string
		outs, ins []int64
	}{
		{1, nil, []int64{1, 2, 4, 6, 7, 8}, []int64{3, 4, 5, 7, 10}},
		{1, []string{}, []int64{1, 2, 4, 6, 7, 8}, []int64{3, 4, 5, 7, 10}},
		{1, []string{"a"}, []int64{2, 4, 8}, []int64{3, 4}},
		{1, []string{"aa"}, []int64{6}, nil},
		{1, []string{"z", "a"}, []int64{1, 2, 4, 7, 8}, []int64{3, 4, 7, 10}},
		{1, []string{"a", "z"}, []int64{1, 2, 4, 7, 8}, []int64{3, 4, 7, 10}},
		{1, []string{"a", "z", "a", "none", "z", "m", "aa"}, []int64{1, 2, 4, 6, 7, 8}, []int64{3, 4, 5, 7, 10}},
		{1, []string{"none"}, nil, nil},
		{1, []string{""}, nil, nil},
		{1, []string{"", "a\x00", strings.Repeat("a", 1000), "A", "m"}, nil, []int64{5}},
		{2, nil, []int64{3, 9}, []int64{1, 2, 8}},
		{2, []string{"a"}, []int64{3, 9}, []int64{2, 8}},
		{3, nil, []int64{5, 10}, []int64{6, 9}},
		{4, nil, nil, nil}, {5, nil, nil, nil}, {0, nil, nil, nil}, {-1, nil, nil, nil}, {1<<60 + 1, nil, nil, nil}, {math.MaxInt64, []string{"a"}, nil, nil}, {math.MinInt64 + 1, nil, nil, nil},
	} {
		labels := slices.Clone(c.labels)
		numbers(t, "out", g.Arcs(c.id, api.Out, labels), c.outs...)
		numbers(t, "in", g.Arcs(c.id, api.In, labels), c.ins...)
		numbers(t, "both", g.Arcs(c.id, api.Both, labels), append(slices.Clone(c.outs), c.ins...)...)
		for _, dir := range []int{0, 4, 5, 7, -1, math.MaxInt, math.MinInt + 1} {
			numbers(t, "none", g.Arcs(c.id, dir, labels))
		}
		if !slices.Equal(labels, c.labels) {
			t.Errorf("labels were changed to %q", labels)
		}
	}
	numbers(t, "AllArcs", g.AllArcs(), 1, 2, 3, 4, 5, 6, 7, 8, 9, 10)
}

// TestByNumbers: of more than 255 all stand by their numbers, of whatever labels they are.
func TestByNumbers(t *testing.T) {
	g := graph.New(tx.New(nil))
	var all, even []int64
	for i := range int64(600) {
		node(t, g, string([]byte{byte('z' - i*7%26)}))
		if all = append(all, i+1); i%2 == 0 {
			even = append(even, i+1)
			set(t, g, i+1, "k", val.Int(7))
		}
	}
	for i := range int64(600) {
		arc(t, g, string([]byte{byte('z' - i*7%26)}), 1+i%2, 2-i%2)
	}
	numbers(t, "Nodes", g.Nodes(), all...)
	numbers(t, "AllArcs", g.AllArcs(), all...)
	numbers(t, "ByProp", g.ByProp("k", val.Int(7)), even...)
	numbers(t, "Arcs", g.Arcs(1, api.Out, nil), even...)
	numbers(t, "Arcs", g.Arcs(2, api.In, nil), even...)
	var l []int64
	for i := int64(0); i < 600; i += 26 {
		l = append(l, i+1)
	}
	numbers(t, "ByLabel", g.ByLabel("z"), l...)
	if !g.Sound() {
		t.Error("it isn't sound")
	}
}

func TestByLabel(t *testing.T) {
	g := graph.New(tx.New(nil))
	for _, l := range []string{"a", "aa", "b", "a", "ab", "A", "_", "a"} {
		node(t, g, l)
	}
	arc(t, g, "a", 1, 2)
	set(t, g, 3, "a", val.Text("a"))
	g.DropNode(4)
	for label, want := range map[string][]int64{
		"a": {1, 8}, "aa": {2}, "b": {3}, "ab": {5}, "A": {6}, "_": {7}, "": nil, "c": nil, "a\x00": nil, "a\x00\x00": nil, "aaa": nil, "\x00": nil, strings.Repeat("a", 1<<20): nil,
	} {
		numbers(t, "ByLabel "+label[:min(9, len(label))], g.ByLabel(label), want...)
	}
}

// sameKeys has values, no two of them the same, of which many have the same first 40 bytes as keys.
func sameKeys() []api.Value {
	x := strings.Repeat("x", 38)
	l := []api.Value{val.None(), val.Yes(false), val.Yes(true), val.Int(0), val.Int(1), val.Int(-1), val.Int(1<<53 + 1), val.Int(1 << 53), val.Float(0), val.Float(1), val.Float(-1), val.Float(math.Copysign(0, -1)), val.Float(math.NaN()), val.Float(math.Inf(1)), val.Float(1 << 53)}
	for _, s := range []string{"", "a", "a\x00", "/", "\x00", x, x[:37], x[:36], x + "x", x + "xx", x + "y", x + "\x00", x[:37] + "\x00", x + "x" + x, "\x00" + x, x[:36] + "/", x[:36] + "\x00/"} {
		l = append(l, val.Text(s), val.List(val.Text(s)), val.Map(val.Text(s), val.Text(s)), val.List(val.Text(s), val.Int(1)), val.Map(val.Text("k"), val.Text(s)))
	}
	return append(l, val.List(), val.Map(), val.List(val.None()), val.List(val.List()), val.Vertex(1), val.Vertex(2), val.Edge(1), val.Edge(math.MaxInt64), val.List(val.Int(1), val.Int(2), val.Int(3), val.Int(4), val.Int(5)), val.List(val.Int(1), val.Int(2), val.Int(3), val.Int(4), val.Int(6)), val.List(val.Int(1), val.Int(2), val.Int(3), val.Float(4)))
}

// TestByProp: just the vertices with a value that is the same are told, whatever stands in the index of it.
func TestByProp(t *testing.T) {
	g, l := graph.New(tx.New(nil)), sameKeys()
	for i, v := range l {
		node(t, g, "n")
		set(t, g, int64(i+1), "k", v)
		set(t, g, int64(i+1), "kk", val.Int(int64(i)))
		if g.SetNode(int64(i+1), "j", l[(i+1)%len(l)], true) != api.OK || g.SetNode(int64(i+1), "j", l[(i+5)%len(l)], true) != api.OK {
			t.Fatal("SetNode")
		}
	}
	n := len(l)
	for i, v := range l {
		id := int64(i + 1)
		numbers(t, "ByProp k", g.ByProp("k", v), id)
		want := []int64{int64((i+n-1)%n + 1), int64((i+n-5)%n + 1)}
		slices.Sort(want)
		numbers(t, "ByProp j", g.ByProp("j", v), want...)
		numbers(t, "ByProp kk", g.ByProp("kk", val.Int(int64(i))), id)
		for _, k := range []string{"", "K", "kkk", "k\x00", "k\x00\x00", "\x00", "i", strings.Repeat("k", 1000)} {
			numbers(t, "ByProp of "+k, g.ByProp(k, v))
		}
	}
	if !g.Sound() {
		t.Error("it isn't sound")
	}
	for i, v := range l {
		// The last value with these first bytes takes the index' key with it, no one else.
		set(t, g, int64(i+1), "k", val.Text("other"))
		numbers(t, "ByProp of what was", g.ByProp("k", v))
		if i+1 < n {
			numbers(t, "ByProp of what is", g.ByProp("k", l[i+1]), int64(i+2))
		}
	}
	if l := g.ByProp("k", val.Text("other")); len(l) != n || !g.Sound() {
		t.Errorf("all others: %d", l)
	}
}

// TestByPropTwice: a vertex with a value twice, or with values that share a key, is told once, until all are gone.
func TestByPropTwice(t *testing.T) {
	g := graph.New(tx.New(nil))
	x := strings.Repeat("x", 60)
	node(t, g, "n")
	set(t, g, 1, "k", val.Text(x), val.Text(x+"y"), val.Text(x), val.Int(1), val.Int(1))
	numbers(t, "one of some", g.ByProp("k", val.Text(x)), 1)
	numbers(t, "another one", g.ByProp("k", val.Text(x+"y")), 1)
	numbers(t, "one twice", g.ByProp("k", val.Int(1)), 1)
	numbers(t, "none", g.ByProp("k", val.Text(x+"z")))
	numbers(t, "of one's list", g.ByProp("k", val.List(val.Int(1))))
	set(t, g, 1, "k", val.Text(x+"y"))
	numbers(t, "one of some", g.ByProp("k", val.Text(x)))
	numbers(t, "another one", g.ByProp("k", val.Text(x+"y")), 1)
	if !g.Sound() {
		t.Error("it isn't sound")
	}
}

// TestByPropAny: values that may not be are asked for: those that are the same as one that may be are told, and all ends.
func TestByPropAny(t *testing.T) {
	g := graph.New(tx.New(nil))
	for _, v := range []api.Value{val.Int(5), val.None(), val.Float(math.NaN()), val.List(val.Int(5)), val.Text("a"), val.Yes(true), val.Vertex(5)} {
		set(t, g, node(t, g, "n"), "k", v)
	}
	twice := api.Value{Kind: api.List}
	for range 100 {
		twice = api.Value{Kind: api.List, L: []api.Value{twice, twice}}
	}
	for _, c := range []struct {
		v    api.Value
		want []int64
	}{
		{api.Value{Kind: api.Int, N: 5, S: "x", L: round().L}, []int64{1}},
		{api.Value{Kind: api.List, L: []api.Value{{Kind: api.Int, N: 5, F: 1}}}, []int64{4}},
		{api.Value{Kind: api.Float, F: math.Float64frombits(0xfff8000000000005)}, []int64{3}},
		{api.Value{Kind: api.Str, S: "a", N: 3, B: true}, []int64{5}},
		{api.Value{Kind: api.Null, N: 1}, nil}, {api.Value{Kind: api.Null, S: "x"}, []int64{2}},
		{api.Value{Kind: 9, N: 5}, nil}, {api.Value{Kind: -1}, nil}, {api.Value{Kind: 256 + api.Int, N: 5}, nil}, {api.Value{Kind: 256, N: 0}, nil}, {api.Value{Kind: math.MaxInt, N: 5}, nil},
		{api.Value{Kind: api.Vertex, N: -5}, nil}, {api.Value{Kind: api.Edge, N: 5}, nil},
		{round(), nil}, {api.Value{Kind: api.Map, L: round().L}, nil}, {twice, nil}, {deep(14), nil}, {deep(10000), nil}, {wide(1001, 0), nil}, {val.Text(strings.Repeat("a", 1<<20)), nil},
		{api.Value{Kind: api.Map, L: []api.Value{val.Int(5)}}, nil},
	} {
		numbers(t, "ByProp of what may not be", g.ByProp("k", c.v), c.want...)
	}
}

func TestValues(t *testing.T) {
	l := []api.Prop{{Key: "a", L: []api.Value{val.Int(1)}}, {Key: "b", List: true, L: []api.Value{val.Int(2), val.List(val.Text("x")), val.Int(2)}}, {Key: "c"}, {Key: "", L: []api.Value{val.None()}}}
	for k, want := range map[string][]api.Value{"a": l[0].L, "b": l[1].L, "c": nil, "": l[3].L, "d": nil, "A": nil, "ab": nil} {
		if got := graph.Values(l, k); !slices.EqualFunc(got, want, val.Same) {
			t.Errorf("Values(%q): %v, must be %v", k, got, want)
		}
	}
	if graph.Values(nil, "a") != nil || graph.Values([]api.Prop{}, "") != nil {
		t.Error("values of none")
	}
	got := graph.Values(l, "b")
	got[0], got[1].L[0] = val.Int(9), val.Int(9)
	if !slices.EqualFunc(graph.Values(l, "b"), []api.Value{val.Int(2), val.List(val.Text("x")), val.Int(2)}, val.Same) {
		t.Error("values are the properties' own")
	}
}

// spoil changes the bytes of a text where they lie.
func spoil(s string) { clear(unsafe.Slice(unsafe.StringData(s), len(s))) }

// mine is a text whose bytes are its own.
func mine(s string) string { return string([]byte(s)) }

// TestOwn: neither what is handed in nor what is answered shares anything with the graph.
func TestOwn(t *testing.T) {
	g := graph.New(tx.New(nil))
	label, k, s, labels := mine("label"), mine("key"), mine("text"), []string{mine("label")}
	id := node(t, g, label)
	e := arc(t, g, label, id, id)
	v := api.Value{Kind: api.List, L: []api.Value{val.Text(s), val.List(val.Int(1))}}
	for _, list := range []bool{false, true} {
		if g.SetNode(id, k, v, list) != api.OK || g.SetArc(e, k, v, list) != api.OK {
			t.Fatal("Set")
		}
	}
	spoil(label)
	spoil(k)
	spoil(s)
	v.L[1].L[0], v.L[0] = val.Int(2), val.None()
	is := val.List(val.Text("text"), val.List(val.Int(1)))
	m := newModel()
	m.addNode("label")
	m.addArc("label", 1, 1)
	m.setNode(1, "key", is, true)
	m.setArc(1, "key", is, true)
	stands(t, g, m)

	n, _ := g.Node(id)
	a, _ := g.Arc(e)
	for _, l := range [][]api.Prop{n.Props, a.Props} {
		spoil(l[0].Key)
		spoil(l[0].L[0].L[0].S)
		l[0].L[0].L[1].L[0] = val.Int(2)
		l[0].L[0].L[0] = val.Int(2)
		l[0].L[0] = val.Int(2)
		l[0] = api.Prop{}
	}
	spoil(n.Label)
	spoil(a.Label)
	stands(t, g, m)
	for _, l := range [][]int64{g.Nodes(), g.AllArcs(), g.ByLabel("label"), g.ByProp("key", is), g.Arcs(1, api.Both, labels)} {
		if len(l) == 0 {
			t.Error("nothing is there")
		}
		clear(l)
	}
	stands(t, g, m)
	if labels[0] != "label" {
		t.Errorf("labels were changed to %q", labels)
	}
}
