package graph_test

import (
	"math"
	"math/rand"
	"slices"
	"strings"
	"testing"

	"offshoot/api"
	"offshoot/dev"
	"offshoot/graph"
	"offshoot/rec"
	"offshoot/tx"
	"offshoot/val"
)

func someNames() []string {
	return []string{"a", "b", "aa", "_", "A9", strings.Repeat("n", 16), "a", "b", "", "9", "no name"}
}

// someValues has values that may be, and some that may not.
func someValues() []api.Value {
	x := strings.Repeat("x", 50)
	return []api.Value{
		val.None(), val.Yes(true), val.Int(1), val.Float(1), val.Int(-7), val.Float(math.NaN()), val.Text("a"), val.Text(""), val.Text(x), val.Text(x + "y"), val.List(), val.List(val.Int(1), val.Text(x)), val.List(val.Int(1), val.Text(x+"y")), val.Map(val.None(), val.Int(1)), val.Map(), val.Vertex(1), val.Edge(2),
		val.Int(1), val.Text("a"), val.Text(strings.Repeat("z", 200)), val.Text(strings.Repeat("z", 490)), deep(10), deep(11), deep(14), {Kind: 9}, {Kind: api.Int, S: "x"},
	}
}

// do is one step of any kind, done to a graph and to its model.
func do(t *testing.T, r *rand.Rand, g *graph.Graph, m *model) {
	t.Helper()
	name, v, list := someNames()[r.Intn(len(someNames()))], someValues()[r.Intn(len(someValues()))], r.Intn(2) == 0
	id, other := r.Int63n(m.lastNode+2), r.Int63n(m.lastNode+2)
	edge := r.Int63n(m.lastArc + 2)
	check := func(what string, got, want any) {
		t.Helper()
		if got != want {
			t.Errorf("%s(%d, %d, %q, %v, %t): %v, must be %v", what, id, other, name, v, list, got, want)
		}
	}
	type made struct {
		id int64
		e  api.Errno
	}
	switch r.Intn(12) {
	case 0, 1:
		n, e := g.AddNode(name)
		k, f := m.addNode(name)
		check("AddNode", made{n, e}, made{k, f})
	case 2, 3, 4:
		n, e := g.AddArc(name, id, other)
		k, f := m.addArc(name, id, other)
		check("AddArc", made{n, e}, made{k, f})
	case 5, 6, 7, 8:
		check("SetNode", g.SetNode(id, name, v, list), m.setNode(id, name, v, list))
	case 9:
		id = edge
		check("SetArc", g.SetArc(id, name, v, list), m.setArc(id, name, v, list))
	case 10:
		id = edge
		check("DropArc", g.DropArc(id), m.dropArc(id))
	case 11:
		if r.Intn(2) == 0 {
			check("DropNode", g.DropNode(id), m.dropNode(id))
		}
	}
}

// asked holds what is asked of the index.
func asked(t *testing.T, g *graph.Graph, m *model) {
	t.Helper()
	for _, name := range someNames() {
		numbers(t, "ByLabel", g.ByLabel(name), m.nodesOf(func(n api.Node) bool { return n.Label == name })...)
		for _, v := range someValues()[:17] {
			numbers(t, "ByProp", g.ByProp(name, v), m.nodesOf(func(n api.Node) bool {
				return slices.ContainsFunc(graph.Values(n.Props, name), func(w api.Value) bool { return val.Same(v, w) })
			})...)
		}
	}
	for id := range m.lastNode + 2 {
		for _, labels := range [][]string{nil, {"a"}, {"b", "_", "b"}, {"", "9"}} {
			of := func(label string) bool { return labels == nil || slices.Contains(labels, label) }
			outs := m.arcsOf(func(a api.Arc) bool { return a.Out == id && of(a.Label) })
			ins := m.arcsOf(func(a api.Arc) bool { return a.In == id && of(a.Label) })
			numbers(t, "Arcs out", g.Arcs(id, api.Out, labels), outs...)
			numbers(t, "Arcs in", g.Arcs(id, api.In, labels), ins...)
			numbers(t, "Arcs both", g.Arcs(id, api.Both, labels), append(outs, ins...)...)
		}
	}
}

// TestModel: graphs that are changed in any way, some that come of one another, by fixed seeds.
func TestModel(t *testing.T) {
	type pair struct {
		g *graph.Graph
		m *model
	}
	for seed := range int64(60) {
		r := rand.New(rand.NewSource(seed))
		l := []pair{{graph.New(tx.New(nil)), newModel()}}
		for i := range 100 {
			p := l[r.Intn(len(l))]
			do(t, r, p.g, p.m)
			if r.Intn(30) == 0 {
				l = append(l, pair{p.g.Copy(), p.m.copy()})
			}
			if i%5 == 0 {
				stands(t, p.g, p.m)
			}
			if t.Failed() {
				t.Fatalf("seed %d, %d", seed, i)
			}
		}
		for _, p := range l {
			stands(t, p.g, p.m)
			asked(t, p.g, p.m)
		}
		if t.Failed() {
			t.Fatalf("seed %d", seed)
		}
	}
}

// TestSameCalls: the same calls in the same order make the same records.
func TestSameCalls(t *testing.T) {
	run := func() []api.Change {
		r, g, m := rand.New(rand.NewSource(5)), graph.New(tx.New(nil)), newModel()
		for range 300 {
			do(t, r, g, m)
		}
		return g.Tx().Changes()
	}
	first := run()
	for range 3 {
		if l := run(); !slices.Equal(l, first) {
			t.Fatalf("%s, then %s", told(first), told(l))
		}
	}
}

// TestKept: a graph's changes are committed to a store, the power fails, and the graph that stands up is the same.
func TestKept(t *testing.T) {
	d, _ := dev.New(2000)
	m := newModel()
	for seed := range int64(30) {
		s, e := rec.Open(d)
		if e != api.OK {
			t.Fatalf("seed %d: Open: %d", seed, e)
		}
		r := rand.New(rand.NewSource(seed))
		g := graph.New(tx.New(s.Snap()))
		for range 20 {
			do(t, r, g, m)
		}
		lost, n := g.Copy(), m.copy()
		for range 5 {
			do(t, r, lost, n)
		}
		if e := s.Commit(g.Tx().Changes()); e != api.OK {
			t.Fatalf("seed %d: Commit: %d", seed, e)
		}
		d.Crash(uint64(seed), int(seed))
		d.Up()
		if s, e = rec.Open(d); e != api.OK {
			t.Fatalf("seed %d: Open behind a fall: %d", seed, e)
		}
		g = graph.New(tx.New(s.Snap()))
		stands(t, g, m)
		asked(t, g, m)
		if l := g.Tx().Changes(); len(l) > 0 || t.Failed() {
			t.Fatalf("seed %d: %s", seed, told(l))
		}
	}
	if len(m.nodes) < 5 || len(m.arcs) < 5 {
		t.Errorf("but %d vertices, %d edges", len(m.nodes), len(m.arcs))
	}
}
