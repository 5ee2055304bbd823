package graph_test

import (
	"math"
	"math/rand"
	"slices"
	"strings"
	"testing"

	"offshoot/api"
	"offshoot/graph"
	"offshoot/key"
	"offshoot/tree"
	"offshoot/tx"
	"offshoot/val"
)

// raw is a value's bytes, or those of a list of values.
func raw(l ...api.Value) string {
	s, _ := val.Put(val.List(l...))
	return s
}

// noThings has bytes that are no vertex', and no edge's.
func noThings() []string {
	a, m := val.Text("a"), val.Map()
	s, _ := val.Put(a)
	k := func(v api.Value) string { return rawNode("a", val.Text("k"), v) }
	e := func(v api.Value) string { return rawArc("a", 1, 1, val.Text("k"), v) }
	l := []string{
		"", "\x00", "a", s, raw(), raw(a), raw(m), raw(m, a), raw(a, a), raw(a, val.None()), raw(a, val.List()), raw(a, m, m), raw(val.None(), m), raw(val.List(a), m), raw(val.Int(1), m),
		rawNode("a")[:9], rawNode("a") + "\x00", "\x06" + rawNode("a")[1:], rawNode(""), rawNode("1"), rawNode("a b"), rawNode(strings.Repeat("a", 17)), rawNode("é"),
		raw(a, val.Vertex(1), m), raw(a, val.Vertex(1), val.Vertex(1), val.List()), raw(a, val.Vertex(1), val.Vertex(1), m, m), raw(a, val.Vertex(1), val.Vertex(1), val.Vertex(1), m), raw(a, val.Edge(1), val.Vertex(1), m), raw(a, val.Vertex(1), val.Edge(1), m), raw(a, val.Int(1), val.Vertex(1), m), raw(a, val.Vertex(1), val.Int(1), m), raw(a, val.None(), val.None(), m), raw(val.Vertex(1), val.Vertex(1), a, m), raw(m, val.Vertex(1), val.Vertex(1), a),
		rawArc("a", 1, 1)[:27], rawArc("a", 1, 1) + "x", rawArc("", 1, 1), rawArc("a-", 1, 1), rawArc("9", 1, 1), "\x05\x00\x04" + text("a") + "\x07" + eight(0) + "\x07" + eight(1) + "\x06\x00\x00", "\x05\x00\x04" + text("a") + "\x07" + eight(1) + "\x07" + eight(1<<63) + "\x06\x00\x00",
	}
	for _, p := range []api.Value{val.None(), val.Int(1), a, val.List(), m, val.Map(val.None(), a, a, a), val.Map(a, a), val.Map(val.Yes(false), a), val.Vertex(1)} {
		l = append(l, k(p), e(p))
	}
	for _, name := range []api.Value{val.Text(""), val.Text("9"), val.Text("a b"), val.Text(strings.Repeat("k", 17)), val.None(), val.Int(1), val.List(a), val.Vertex(1)} {
		l = append(l, rawNode("a", name, one(a)), rawArc("a", 1, 1, name, val.List(a)), rawNode("a", val.Text("k"), one(a), name, one(a)))
	}
	return append(l, "\x05\x00\x02"+text("a")+"\x06\x00\x04"+text("k")+"\x05\x00\x01\x00"+text("j")+"\x05\x00\x01\x00", "\x05\x00\x02"+text("a")+"\x06\x00\x01"+text("k"), "\x05\x00\x02"+text("a")+"\x06\x00\x02"+text("k")+"\x05\x00\x01\x03"+eight(0x7ff8000000000002))
}

// TestNoThings: a vertex, an edge whose record is of another form is not there.
func TestNoThings(t *testing.T) {
	all := recordsOf(town(t))
	for _, s := range append(noThings(), rawArc("a", 1, 1)) {
		lacks(t, over(all, laid(nodeAt+1, s)), 1, 0, s)
	}
	for _, s := range append(noThings(), rawNode("a")) {
		lacks(t, over(all, laid(arcAt+1, s)), 0, 1, s)
	}
}

// lacks holds that a vertex (or 0), an edge (or 0) is not there, for all calls alike.
func lacks(t *testing.T, g *graph.Graph, id, arc int64, s string) {
	t.Helper()
	n, is := g.Node(id)
	a, are := g.Arc(arc)
	if is || are || n.Label != "" || n.Props != nil || a.Label != "" || a.Out != 0 || a.In != 0 || a.Props != nil {
		t.Errorf("%q is %v, %v", s, n, a)
	}
	for _, l := range [][]int64{g.Nodes(), g.ByLabel("a"), g.ByProp("k", val.Int(1))} {
		if slices.Contains(l, 1) == (id == 1) {
			t.Errorf("%q: vertices %d", s, l)
		}
	}
	for _, l := range [][]int64{g.AllArcs(), g.Arcs(1, api.Out, nil), g.Arcs(2, api.In, []string{"e"})} {
		if slices.Contains(l, 1) == (arc == 1) {
			t.Errorf("%q: edges %d", s, l)
		}
	}
	unchanged(t, g, func() {
		if g.SetNode(id, "k", val.None(), false) != api.ErrLacks || g.SetArc(arc, "k", val.None(), false) != api.ErrLacks || g.DropNode(id) || g.DropArc(arc) {
			t.Errorf("%q is there", s)
		}
		for _, c := range [][2]int64{{id, 3}, {3, id}, {id, id}} {
			if _, e := g.AddArc("e", c[0], c[1]); e != api.ErrLacks {
				t.Errorf("%q: an edge from %d to %d: %d", s, c[0], c[1], e)
			}
		}
	})
	if arc == 1 {
		unsound(t, s, g)
	}
}

// TestByHand: records that were laid by hand are read as they are, without record 0, too.
func TestByHand(t *testing.T) {
	r := records{nodeAt + 7: rawNode("a", val.Text("j"), one(val.Text("x")), val.Text("k"), val.List(val.Int(1), val.None())), arcAt + 9: rawArc("e", 7, 8, val.Text("k"), val.List(val.List()))}
	g := over(r)
	n, ok := g.Node(7)
	if want := []api.Prop{{Key: "j", L: []api.Value{val.Text("x")}}, {Key: "k", List: true, L: []api.Value{val.Int(1), val.None()}}}; !ok || n.ID != 7 || n.Label != "a" || !same(n.Props, want) {
		t.Errorf("Node(7): %v, %t", n, ok)
	}
	a, ok := g.Arc(9)
	if want := []api.Prop{{Key: "k", List: true, L: []api.Value{val.List()}}}; !ok || a.ID != 9 || a.Label != "e" || a.Out != 7 || a.In != 8 || !same(a.Props, want) {
		t.Errorf("Arc(9): %v, %t", a, ok)
	}
	// Nor is what stands where a vertex, an edge of no number that may be would stand.
	for _, at := range []uint64{0, 5, nodeAt - 5, nodeAt, arcAt, arcAt + 7, leafAt - 1, leafAt + 6, 7 << 60, 9<<60 + 7} {
		for _, s := range []string{r[nodeAt+7], r[arcAt+9]} {
			g := over(r, laid(at, s))
			_, is := g.Node(int64(at - nodeAt))
			_, are := g.Arc(int64(at - arcAt))
			if at != arcAt+7 && are || is {
				t.Errorf("record %x is %t, %t", at, is, are)
			}
		}
	}
	for _, id := range []int64{7 + 1<<60, 7 - 1<<60, 9 + 1<<60, 9 + 2<<60, 9 + 3<<60, 0, 9 - 1<<60} {
		_, is := g.Node(id)
		_, are := g.Arc(id)
		if is || are {
			t.Errorf("%d is there", id)
		}
	}
	if g.SetNode(7, "k", val.Int(3), true) != api.OK || !slices.Equal(g.ByProp("k", val.None()), []int64{7}) || !slices.Equal(g.Nodes(), []int64{7}) {
		t.Error("SetNode")
	}
}

// TestHead: numbers go on behind those that record 0 tells; behind the last one there is none.
func TestHead(t *testing.T) {
	for _, c := range []struct {
		last uint64
		want int64
		e    api.Errno
	}{
		{0, 1, api.OK}, {1, 2, api.OK}, {255, 256, api.OK}, {1 << 40, 1<<40 + 1, api.OK}, {1<<60 - 2, 1<<60 - 1, api.OK},
		{1<<60 - 1, 0, api.ErrBig}, {1 << 60, 0, api.ErrBig}, {1<<63 - 1, 0, api.ErrBig}, {1 << 63, 0, api.ErrBig}, {math.MaxUint64, 0, api.ErrBig}, {math.MaxUint64 - 1, 0, api.ErrBig},
	} {
		g := over(records{0: rawHead(c.last, 5, leafAt+3, 0), nodeAt + 9: rawNode("n")})
		if n, a := g.Last(); n != int64(c.last) || a != 5 {
			t.Errorf("Last of %x: %d, %d", c.last, n, a)
		}
		is := len(g.Tx().Changes())
		if id, e := g.AddNode("a"); id != c.want || e != c.e {
			t.Errorf("AddNode behind %x: %d, %d", c.last, id, e)
		} else if e != api.OK && len(g.Tx().Changes()) != is {
			t.Errorf("AddNode behind %x changes something", c.last)
		} else if n, ok := g.Node(id); ok != (e == api.OK) || n.ID != id {
			t.Errorf("Node(%d): %t", id, ok)
		}
		g = over(records{0: rawHead(5, c.last, leafAt+3, 0), nodeAt + 9: rawNode("n")})
		if id, e := g.AddArc("a", 9, 9); id != c.want || e != c.e {
			t.Errorf("AddArc behind %x: %d, %d", c.last, id, e)
		} else if a, ok := g.Arc(id); ok != (e == api.OK) || a.ID != id || ok && !slices.Equal(g.Arcs(9, api.Both, nil), []int64{id, id}) {
			t.Errorf("Arc(%d): %t", id, ok)
		}
	}
	// The index' nodes go on, too.
	g := over(records{0: rawHead(3, 4, leafAt+70, 0)})
	node(t, g, "a")
	want := []api.Change{laid(0, rawHead(4, 4, leafAt+71, leafAt+70)), laid(nodeAt+4, rawNode("a")), laid(leafAt+70, tree.Encode([]string{"l" + key.Name("a") + eight(4)}, nil))}
	if l := g.Tx().Changes(); !slices.Equal(l, want) {
		t.Errorf("changes %s, must be %s", told(l), told(want))
	}
}

// TestNoHead: a record 0 that is of another form is as none.
func TestNoHead(t *testing.T) {
	for _, s := range []string{"", "x", strings.Repeat("\x00", 31), strings.Repeat("\x07", 31), strings.Repeat("\x07", 33), strings.Repeat("x", 498)} {
		g := over(records{0: s})
		if n, a := g.Last(); n != 0 || a != 0 || len(g.Nodes()) > 0 {
			t.Errorf("%q: %d, %d", s, n, a)
		}
		node(t, g, "a")
		if got, _ := g.Tx().Get(0); got != rawHead(1, 0, leafAt+1, leafAt) || !g.Sound() {
			t.Errorf("%q: record 0 is %q then", s, got)
		}
	}
}

// anything calls all that there is, and holds that what is told is there.
func anything(t *testing.T, g *graph.Graph, r *rand.Rand) {
	t.Helper()
	g.Sound()
	for _, id := range slices.Concat(g.Nodes(), g.ByLabel("a"), g.ByProp("k", val.Int(1))) {
		if n, ok := g.Node(id); !ok || n.ID != id || id < 1 {
			t.Errorf("vertex %d is not there", id)
		}
	}
	for id := range int64(4) {
		for _, e := range slices.Concat(g.AllArcs(), g.Arcs(id, api.Both, nil), g.Arcs(id, api.In, []string{"a", "e"})) {
			if a, ok := g.Arc(e); !ok || a.ID != e || e < 1 {
				t.Errorf("edge %d is not there", e)
			}
		}
		for _, e := range g.Arcs(id, api.Out, nil) {
			if a, _ := g.Arc(e); a.Out != id {
				t.Errorf("edge %d comes from %d, not %d", e, a.Out, id)
			}
		}
		for _, e := range g.Arcs(id, api.In, []string{"e"}) {
			if a, _ := g.Arc(e); a.In != id || a.Label != "e" {
				t.Errorf("edge %d leads to %d, not %d", e, a.In, id)
			}
		}
	}
	for _, id := range g.ByLabel("a") {
		if n, _ := g.Node(id); n.Label != "a" {
			t.Errorf("vertex %d is a %s", id, n.Label)
		}
	}
	for _, id := range g.ByProp("k", val.Int(1)) {
		if n, _ := g.Node(id); !slices.ContainsFunc(graph.Values(n.Props, "k"), func(v api.Value) bool { return val.Same(v, val.Int(1)) }) {
			t.Errorf("vertex %d has no 1", id)
		}
	}
	for range 6 {
		id := r.Int63n(5)
		switch r.Intn(6) {
		case 0:
			g.AddNode("a")
		case 1:
			g.AddArc("e", id, r.Int63n(5))
		case 2:
			g.SetNode(id, "k", val.Int(1), r.Intn(2) == 0)
		case 3:
			g.SetArc(id, "k", val.Int(1), false)
		case 4:
			if g.DropArc(id) {
				if _, ok := g.Arc(id); ok {
					t.Errorf("edge %d is still there", id)
				}
			}
		case 5:
			if g.DropNode(id) {
				if _, ok := g.Node(id); ok {
					t.Errorf("vertex %d is still there", id)
				}
			}
		}
		g.Sound()
	}
}

// TestAnyRecords: over any records each call ends, and none panics; what is told is there.
func TestAnyRecords(t *testing.T) {
	all := recordsOf(town(t))
	var ids []uint64
	for id := range all {
		ids = append(ids, id)
	}
	slices.Sort(ids)
	things := append(noThings(), rawNode("a"), rawNode("a", val.Text("k"), one(val.Int(1))), rawArc("e", 1, 2), rawArc("a", 3, 3))
	for seed := range int64(1500) {
		r := rand.New(rand.NewSource(seed))
		var l []api.Change
		for range 1 + r.Intn(4) {
			id := ids[r.Intn(len(ids))]
			s := all[ids[r.Intn(len(ids))]]
			switch r.Intn(7) {
			case 0:
				l = append(l, gone(id))
				continue
			case 1:
				s = things[r.Intn(len(things))]
			case 2:
				// Not of record 0: to look for as many as that would tell of takes its time.
				id = ids[1+r.Intn(len(ids)-1)]
				b := []byte(all[id])
				b[r.Intn(len(b))] ^= byte(1 << r.Intn(8))
				s = string(b)
			case 3:
				k := []string{"l", "la\x00\x00" + eight(uint64(r.Intn(7))), "o" + eight(1) + "e\x00\x00" + eight(uint64(r.Intn(7))), "pk\x00\x00" + key.Of(val.Int(1)) + "/" + eight(3), "\x00"}
				slices.Sort(k)
				id, s = ids[len(ids)-1-r.Intn(3)], tree.Encode(k[1:r.Intn(3)+3], nil)
			case 4:
				wild := []uint64{0, 1, 7, leafAt - 1, leafAt, leafAt + 3, nodeAt + 1, arcAt + 1, 1 << 62, 1 << 63, math.MaxUint64}
				id, s = 0, rawHead(wild[r.Intn(len(wild))], wild[r.Intn(len(wild))], wild[r.Intn(len(wild))], wild[r.Intn(len(wild))])
			case 5:
				s = tree.Encode([]string{"la\x00\x00" + eight(2), "m"}, []uint64{ids[r.Intn(len(ids))], ids[r.Intn(len(ids))], id})
			}
			l = append(l, laid(id, s))
		}
		g := over(all, l...)
		if seed%2 == 0 {
			g = over(all)
			g.Tx().Apply(l)
		}
		anything(t, g, r)
		if t.Failed() {
			t.Fatalf("seed %d: %s", seed, told(l))
		}
	}
}

// TestEverywhere: getters that answer of all numbers.
func TestEverywhere(t *testing.T) {
	things := append(noThings(), rawNode("a"), rawArc("e", 1, 1), rawHead(3, 3, leafAt+3, leafAt), rawHead(math.MaxUint64, math.MaxUint64, math.MaxUint64, leafAt), tree.Encode([]string{"la\x00\x00" + eight(1)}, nil), tree.Encode([]string{"l", "o"}, []uint64{leafAt, leafAt, leafAt}))
	for _, s := range things {
		for _, head := range []string{s, rawHead(3, 3, leafAt+3, leafAt)} {
			g := graph.New(tx.New(func(id uint64) (string, bool) {
				if id == 0 {
					return head, true
				}
				return s, true
			}))
			anything(t, g, rand.New(rand.NewSource(1)))
		}
	}
}
