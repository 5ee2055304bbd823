package graph_test

import (
	"math"
	"slices"
	"strings"
	"testing"

	"offshoot/api"
	"offshoot/graph"
	"offshoot/tx"
	"offshoot/val"
)

func TestName(t *testing.T) {
	for b := range 256 {
		c := string([]byte{byte(b)})
		letter := b >= 'a' && b <= 'z' || b >= 'A' && b <= 'Z' || b == '_'
		digit := b >= '0' && b <= '9'
		for _, s := range []string{c, c + "a", c + c, c + "a23456789_ABCDE"} {
			if graph.Name(s) != letter {
				t.Errorf("Name(%q): %t", s, !letter)
			}
		}
		for _, s := range []string{"a" + c, "_" + c + "9", "a23456789012345" + c} {
			if graph.Name(s) != (letter || digit) {
				t.Errorf("Name(%q): %t", s, graph.Name(s))
			}
		}
		if s := "a234567890123456" + c; graph.Name(s) {
			t.Errorf("Name(%q): true", s)
		}
	}
	for s, want := range map[string]bool{
		"": false, "a": true, "Z": true, "_": true, "__": true, "0": false, "9a": false, "a9": true, "naïve": false, "é": false, "Ω": false, "a b": false, " a": false, "a ": false, "a-b": false, "a.b": false, "a\x00": false, "١a": false, "a١": false,
		strings.Repeat("a", 16): true, strings.Repeat("_", 16): true, strings.Repeat("a", 17): false, strings.Repeat("a", 1<<20): false, "A1_b2_C3_d4_E5_f": true,
	} {
		if graph.Name(s) != want {
			t.Errorf("Name(%q): %t", s, !want)
		}
	}
}

// TestAddNode: the records of a first vertex, byte by byte, and numbers that rise.
func TestAddNode(t *testing.T) {
	g, m := graph.New(tx.New(nil)), newModel()
	stands(t, g, m)
	numbers(t, "AddNode", []int64{node(t, g, "person")}, 1)
	want := []api.Change{
		laid(0, eight(1)+eight(0)+"\x30\x00\x00\x00\x00\x00\x00\x02"+"\x30\x00\x00\x00\x00\x00\x00\x01"),
		laid(1<<60+1, "\x05\x00\x02"+"\x04\x00\x06person"+"\x06\x00\x00"),
		laid(3<<60+1, "\x01\x00"+"\x11"+"lperson\x00\x00"+eight(1)),
	}
	if l := g.Tx().Changes(); !slices.Equal(l, want) {
		t.Errorf("changes %s, must be %s", told(l), told(want))
	}
	m.addNode("person")
	stands(t, g, m)
	for i, label := range []string{"person", "a", "_", "Software_1", strings.Repeat("x", 16), "person"} {
		numbers(t, "AddNode", []int64{node(t, g, label)}, int64(i+2))
		m.addNode(label)
		stands(t, g, m)
	}
	for _, label := range []string{"", "1a", "a b", strings.Repeat("x", 17), "ä", "a\x00"} {
		unchanged(t, g, func() {
			if id, e := g.AddNode(label); id != 0 || e != api.ErrName {
				t.Errorf("AddNode(%q): %d, %d", label, id, e)
			}
		})
	}
	numbers(t, "AddNode behind errors", []int64{node(t, g, "z")}, 8)
}

// TestAddArc: the records of a first edge, byte by byte, and edges of all kinds.
func TestAddArc(t *testing.T) {
	g, m := graph.New(tx.New(nil)), newModel()
	node(t, g, "a")
	node(t, g, "b")
	numbers(t, "AddArc", []int64{arc(t, g, "to", 1, 2)}, 1)
	if s, _ := g.Tx().Get(2<<60 + 1); s != "\x05\x00\x04"+"\x04\x00\x02to"+"\x07"+eight(1)+"\x07"+eight(2)+"\x06\x00\x00" {
		t.Errorf("the edge's record: %q", s)
	}
	if s, _ := g.Tx().Get(3<<60 + 1); s != "\x04\x00"+"\x15i"+eight(2)+"to\x00\x00"+eight(1)+"\x0cla\x00\x00"+eight(1)+"\x0clb\x00\x00"+eight(2)+"\x15o"+eight(1)+"to\x00\x00"+eight(1) {
		t.Errorf("the index' node: %q", s)
	}
	if s, _ := g.Tx().Get(0); s != rawHead(2, 1, leafAt+1, leafAt) {
		t.Errorf("record 0: %q", s)
	}
	m.addNode("a")
	m.addNode("b")
	m.addArc("to", 1, 2)
	stands(t, g, m)
	for i, c := range [][2]int64{{2, 1}, {1, 2}, {1, 1}, {2, 2}, {1, 2}} {
		numbers(t, "AddArc", []int64{arc(t, g, "to", c[0], c[1])}, int64(i+2))
		m.addArc("to", c[0], c[1])
		stands(t, g, m)
	}
}

func TestAddArcErrors(t *testing.T) {
	g := graph.New(tx.New(nil))
	for range 3 {
		node(t, g, "a")
	}
	g.DropNode(2)
	unchanged(t, g, func() {
		for _, c := range []struct {
			label    string
			from, to int64
			e        api.Errno
		}{
			{"", 1, 3, api.ErrName}, {"1", 1, 3, api.ErrName}, {strings.Repeat("x", 17), 1, 3, api.ErrName},
			{"", 0, 9, api.ErrName}, {"a b", 2, 2, api.ErrName},
			{"a", 0, 1, api.ErrLacks}, {"a", 1, 0, api.ErrLacks}, {"a", 1, 2, api.ErrLacks}, {"a", 2, 1, api.ErrLacks}, {"a", 4, 1, api.ErrLacks}, {"a", 1, 4, api.ErrLacks},
			{"a", -1, 1, api.ErrLacks}, {"a", 1, -1, api.ErrLacks}, {"a", math.MinInt64, 1, api.ErrLacks}, {"a", 1, math.MaxInt64, api.ErrLacks}, {"a", 1 << 60, 1, api.ErrLacks}, {"a", 1, 1<<60 + 1, api.ErrLacks}, {"a", 1<<63 - 1<<60 + 1, 1, api.ErrLacks},
		} {
			if id, e := g.AddArc(c.label, c.from, c.to); id != 0 || e != c.e {
				t.Errorf("AddArc(%q, %d, %d): %d, %d, must be %d", c.label, c.from, c.to, id, e, c.e)
			}
		}
	})
	numbers(t, "AddArc behind errors", []int64{arc(t, g, "a", 1, 3)}, 1)
}

// TestSet: a property's values, as they come with list and without.
func TestSet(t *testing.T) {
	a, b, c := val.Text("a"), val.Int(1), val.List(val.Int(1), val.Int(2))
	type step struct {
		v    api.Value
		list bool
	}
	for i, d := range []struct {
		steps []step
		want  api.Prop
	}{
		{[]step{{a, false}}, api.Prop{Key: "k", L: []api.Value{a}}},
		{[]step{{a, true}}, api.Prop{Key: "k", List: true, L: []api.Value{a}}},
		{[]step{{a, false}, {b, false}}, api.Prop{Key: "k", L: []api.Value{b}}},
		{[]step{{a, false}, {a, false}}, api.Prop{Key: "k", L: []api.Value{a}}},
		{[]step{{a, false}, {b, true}}, api.Prop{Key: "k", List: true, L: []api.Value{b}}},
		{[]step{{a, false}, {a, true}}, api.Prop{Key: "k", List: true, L: []api.Value{a}}},
		{[]step{{a, true}, {b, true}}, api.Prop{Key: "k", List: true, L: []api.Value{a, b}}},
		{[]step{{b, true}, {a, true}, {b, true}, {b, true}}, api.Prop{Key: "k", List: true, L: []api.Value{b, a, b, b}}},
		{[]step{{a, true}, {b, true}, {c, false}}, api.Prop{Key: "k", L: []api.Value{c}}},
		{[]step{{a, true}, {b, false}, {c, true}, {a, true}}, api.Prop{Key: "k", List: true, L: []api.Value{c, a}}},
		{[]step{{c, false}, {a, true}}, api.Prop{Key: "k", List: true, L: []api.Value{a}}},
		{[]step{{val.None(), false}}, api.Prop{Key: "k", L: []api.Value{val.None()}}},
		{[]step{{val.List(), false}}, api.Prop{Key: "k", L: []api.Value{val.List()}}},
		{[]step{{val.List(), true}}, api.Prop{Key: "k", List: true, L: []api.Value{val.List()}}},
		{[]step{{val.Map(), false}}, api.Prop{Key: "k", L: []api.Value{val.Map()}}},
		{[]step{{val.Map(val.None(), a), false}}, api.Prop{Key: "k", L: []api.Value{val.Map(val.None(), a)}}},
		{[]step{{val.Map(val.None(), a), true}, {val.Vertex(3), true}, {val.Edge(1), true}}, api.Prop{Key: "k", List: true, L: []api.Value{val.Map(val.None(), a), val.Vertex(3), val.Edge(1)}}},
	} {
		g, m := graph.New(tx.New(nil)), newModel()
		node(t, g, "n")
		arc(t, g, "e", 1, 1)
		m.addNode("n")
		m.addArc("e", 1, 1)
		for _, s := range d.steps {
			if e := g.SetNode(1, "k", s.v, s.list); e != api.OK {
				t.Errorf("%d: SetNode: %d", i, e)
			}
			if e := g.SetArc(1, "k", s.v, s.list); e != api.OK {
				t.Errorf("%d: SetArc: %d", i, e)
			}
			m.setNode(1, "k", s.v, s.list)
			m.setArc(1, "k", s.v, s.list)
		}
		n, _ := g.Node(1)
		x, _ := g.Arc(1)
		if want := []api.Prop{d.want}; !same(n.Props, want) || !same(x.Props, want) {
			t.Errorf("%d: %v, %v, must be %v", i, n.Props, x.Props, want)
		}
		stands(t, g, m)
	}
}

// TestSetSame: a property that is laid as it is changes no record.
func TestSetSame(t *testing.T) {
	g := graph.New(tx.New(nil))
	for i := range int64(40) {
		id := node(t, g, "n")
		set(t, g, id, "a", val.Int(i*7%11))
		set(t, g, id, "b", val.Int(i))
		set(t, g, id, "c", val.Int(i), val.Text("c"))
		g.SetArc(arc(t, g, "e", id, 1), "a", val.Int(i), false)
	}
	unchanged(t, g, func() {
		for i := range int64(40) {
			set(t, g, i+1, "a", val.Int(i*7%11))
			set(t, g, i+1, "b", val.Int(i))
			if e := g.SetArc(i+1, "a", val.Int(i), false); e != api.OK {
				t.Errorf("SetArc: %d", e)
			}
		}
	})
}

// TestSetBytes: the records of properties, byte by byte; a value that is a list is not a list of values.
func TestSetBytes(t *testing.T) {
	g := graph.New(tx.New(nil))
	node(t, g, "n")
	arc(t, g, "e", 1, 1)
	for _, k := range []string{"b", "c", "a", "_", "B"} {
		list := k == "a"
		if g.SetNode(1, k, val.List(val.Yes(true)), list) != api.OK || g.SetArc(1, k, val.List(val.Yes(true)), list) != api.OK {
			t.Errorf("Set %q", k)
		}
	}
	single := "\x06\x00\x02\x00\x05\x00\x01\x01\x01"
	props := "\x06\x00\x0a" + text("B") + single + text("_") + single + text("a") + "\x05\x00\x01\x05\x00\x01\x01\x01" + text("b") + single + text("c") + single
	if s, _ := g.Tx().Get(1<<60 + 1); s != "\x05\x00\x02"+text("n")+props {
		t.Errorf("the vertex' record: %q", s)
	}
	if s, _ := g.Tx().Get(2<<60 + 1); s != "\x05\x00\x04"+text("e")+"\x07"+eight(1)+"\x07"+eight(1)+props {
		t.Errorf("the edge's record: %q", s)
	}
}

// deep is a value that stands so deep.
func deep(n int) api.Value {
	v := val.None()
	for range n - 1 {
		v = api.Value{Kind: api.List, L: []api.Value{v}}
	}
	return v
}

// wide is a list of so many texts of so many bytes.
func wide(n, size int) api.Value {
	v := api.Value{Kind: api.List}
	for range n {
		v.L = append(v.L, val.Text(strings.Repeat("x", size)))
	}
	return v
}

// sized is a value of so many bytes, more than 59860.
func sized(n int) api.Value {
	v := wide(119, 500)
	v.L = append(v.L, val.Text(strings.Repeat("x", n-59863)))
	return v
}

// round is a list that has itself within it.
func round() api.Value {
	l := []api.Value{{Kind: api.List}}
	l[0].L = l
	return l[0]
}

// TestSetErrors: the first error of those that apply, and nothing is changed.
func TestSetErrors(t *testing.T) {
	g := graph.New(tx.New(nil))
	for range 2 {
		node(t, g, "n")
		arc(t, g, "e", 1, 1)
	}
	g.DropNode(2)
	g.DropArc(2)
	set(t, g, 1, "k", val.Text(strings.Repeat("k", 300)))
	g.SetArc(1, "k", val.Text(strings.Repeat("k", 300)), false)
	bad, big, good := api.Value{Kind: 9}, val.Text(strings.Repeat("x", 490)), val.Int(1)
	unchanged(t, g, func() {
		for _, c := range []struct {
			id int64
			k  string
			v  api.Value
			e  api.Errno
		}{
			{0, "", bad, api.ErrLacks}, {2, "", bad, api.ErrLacks}, {3, "k", good, api.ErrLacks}, {-1, "k", good, api.ErrLacks}, {math.MinInt64, "k", good, api.ErrLacks}, {1 << 60, "k", good, api.ErrLacks}, {1<<60 + 1, "k", big, api.ErrLacks}, {-1<<60 + 1, "k", big, api.ErrLacks}, {2<<60 + 1, "k", big, api.ErrLacks}, {math.MaxInt64, "k", good, api.ErrLacks},
			{1, "", bad, api.ErrName}, {1, "0", good, api.ErrName}, {1, "a b", big, api.ErrName}, {1, strings.Repeat("x", 17), good, api.ErrName}, {1, "é", deep(14), api.ErrName},
			{1, "k", bad, api.ErrShape}, {1, "j", api.Value{Kind: api.Int, S: "x"}, api.ErrShape}, {1, "k", api.Value{Kind: api.Vertex}, api.ErrShape}, {1, "k", val.List(wide(1, 490), bad), api.ErrShape}, {1, "k", api.Value{Kind: api.Map, L: []api.Value{good}}, api.ErrShape},
			{1, "k", val.Text(strings.Repeat("x", 501)), api.ErrMost}, {1, "k", deep(14), api.ErrMost}, {1, "k", wide(1001, 0), api.ErrMost}, {1, "k", wide(200, 400), api.ErrMost},
			{1, "k", val.List(deep(11), bad), api.ErrShape}, {1, "k", val.List(sized(59900), wide(1, 80), bad), api.ErrShape}, {1, "k", round(), api.ErrMost},
			{1, "k", deep(13), api.ErrMost}, {1, "j", deep(12), api.ErrMost}, {1, "k", deep(11), api.ErrMost}, {1, "k", val.List(deep(10), big), api.ErrMost}, {1, "k", sized(60000), api.ErrMost},
			{1, "k", sized(59900), api.ErrBig}, {1, "k", wide(1000, 0), api.ErrBig}, {1, "k", big, api.ErrBig}, {1, "j", val.Text(strings.Repeat("x", 170)), api.ErrBig}, {1, "k", wide(2, 240), api.ErrBig},
		} {
			for _, list := range []bool{false, true} {
				if e := g.SetNode(c.id, c.k, c.v, list); e != c.e {
					t.Errorf("SetNode(%d, %q, .., %t): %d, must be %d", c.id, c.k, list, e, c.e)
				}
				if e := g.SetArc(c.id, c.k, c.v, list); e != c.e {
					t.Errorf("SetArc(%d, %q, .., %t): %d, must be %d", c.id, c.k, list, e, c.e)
				}
			}
		}
	})
	if !g.Sound() {
		t.Error("it isn't sound")
	}
}

// TestBig: a record of MostBody bytes may be, one of more may not.
func TestBig(t *testing.T) {
	for _, list := range []bool{false, true} {
		g := graph.New(tx.New(nil))
		node(t, g, "n")
		arc(t, g, "e", 1, 1)
		ahead := 3 + 4 + 3 + 4 + 4 + 3 // list, label, map, key, map and Null, or list, text
		if list {
			ahead--
		}
		for n := 498 - ahead - 3; n < 498-ahead+4; n++ {
			v, want := val.Text(strings.Repeat("x", n)), api.OK
			if n > 498-ahead {
				want = api.ErrBig
			}
			h := g.Copy()
			if e := h.SetNode(1, "k", v, list); e != want {
				t.Errorf("SetNode of %d bytes, %t: %d", n, list, e)
			}
			if s, _ := h.Tx().Get(nodeAt + 1); want == api.OK && len(s) != n+ahead {
				t.Errorf("%d bytes make a record of %d", n, len(s))
			}
			// An edge has 18 bytes more.
			v.S = v.S[:n-18]
			if e := h.SetArc(1, "k", v, list); e != want {
				t.Errorf("SetArc of %d bytes, %t: %d", n, list, e)
			}
		}
	}
	// Values come one behind the other until the record is full.
	g := graph.New(tx.New(nil))
	node(t, g, "n")
	n := 0
	for ; g.SetNode(1, "k", val.None(), true) == api.OK; n++ {
	}
	if x, _ := g.Node(1); n != 481 || len(x.Props) != 1 || len(x.Props[0].L) != 481 {
		t.Errorf("%d values: %v", n, x)
	}
	if e := g.SetNode(1, "k", val.None(), true); e != api.ErrBig {
		t.Errorf("one value more: %d", e)
	}
	if e := g.SetNode(1, "k", val.None(), false); e != api.OK {
		t.Errorf("one alone: %d", e)
	}
}

// TestMost: a record of more than MostBytes is told as one that may not be, one of less as one that is too great.
func TestMost(t *testing.T) {
	g := graph.New(tx.New(nil))
	node(t, g, "n")
	arc(t, g, "e", 1, 1)
	for _, list := range []bool{false, true} {
		ahead := 3 + 4 + 3 + 4 + 4
		if list {
			ahead--
		}
		for n := 59950; n <= 60000; n++ {
			for kind, bytes := range []int{n + ahead, n + ahead + 18} {
				want, e := api.ErrBig, api.OK
				if bytes > 60000 {
					want = api.ErrMost
				}
				if kind == 0 {
					e = g.SetNode(1, "k", sized(n), list)
				} else {
					e = g.SetArc(1, "k", sized(n), list)
				}
				if e != want {
					t.Errorf("kind %d, %d bytes, %t: %d", kind, n, list, e)
				}
			}
		}
	}
}

// TestDepth: a value may stand so deep that the record around it may be.
func TestDepth(t *testing.T) {
	g := graph.New(tx.New(nil))
	node(t, g, "n")
	arc(t, g, "e", 1, 1)
	for n := 1; n < 16; n++ {
		want := api.OK
		if n > 10 {
			want = api.ErrMost
		}
		for _, list := range []bool{false, true} {
			if e := g.SetNode(1, "k", deep(n), list); e != want {
				t.Errorf("SetNode of depth %d, %t: %d", n, list, e)
			}
			if e := g.SetArc(1, "k", deep(n), list); e != want {
				t.Errorf("SetArc of depth %d, %t: %d", n, list, e)
			}
		}
	}
}

// TestDrop: what goes leaves nothing, and its number is not given again.
func TestDrop(t *testing.T) {
	g, m := graph.New(tx.New(nil)), newModel()
	for _, l := range []string{"a", "b", "a", "c"} {
		node(t, g, l)
		m.addNode(l)
	}
	for _, c := range [][2]int64{{1, 2}, {2, 1}, {1, 1}, {2, 3}, {3, 2}, {3, 3}, {1, 2}, {4, 3}} {
		arc(t, g, "e", c[0], c[1])
		m.addArc("e", c[0], c[1])
	}
	set(t, g, 1, "k", val.Int(1), val.Int(2))
	m.setNode(1, "k", val.Int(1), true)
	m.setNode(1, "k", val.Int(2), true)
	drop := func(what string, got, want bool) {
		t.Helper()
		if got != want {
			t.Errorf("%s: %t", what, got)
		}
		stands(t, g, m)
	}
	m.dropArc(5)
	drop("DropArc(5)", g.DropArc(5), true)
	drop("DropArc(5) again", g.DropArc(5), false)
	m.dropNode(1)
	drop("DropNode(1)", g.DropNode(1), true)
	drop("DropNode(1) again", g.DropNode(1), false)
	numbers(t, "AllArcs", g.AllArcs(), 4, 6, 8)
	for _, id := range []int64{0, 1, 5, -1, math.MinInt64, math.MaxInt64, 1 << 60, 1<<60 + 2, -1<<60 + 2, 2<<60 + 3} {
		unchanged(t, g, func() {
			drop("DropNode of none", g.DropNode(id), false)
			drop("DropArc of none", g.DropArc(id), false)
		})
	}
	numbers(t, "AddNode", []int64{node(t, g, "a")}, 5)
	numbers(t, "AddArc", []int64{arc(t, g, "e", 5, 5)}, 9)
	m.addNode("a")
	m.addArc("e", 5, 5)
	stands(t, g, m)
	for id := range int64(6) {
		drop("DropNode", g.DropNode(id), m.dropNode(id))
	}
	want := []api.Change{laid(0, rawHead(5, 9, val.Wide(recordsOf(g)[0][16:]), 0))}
	if l := g.Tx().Changes(); !slices.Equal(l, want) {
		t.Errorf("when all went: %s, must be %s", told(l), told(want))
	}
	numbers(t, "AddNode", []int64{node(t, g, "a")}, 6)
	numbers(t, "AddArc", []int64{arc(t, g, "e", 6, 6)}, 10)
}

// TestNil: a nil graph has nothing, and takes nothing; one of nil likewise.
func TestNil(t *testing.T) {
	for _, g := range []*graph.Graph{nil, graph.New(nil), {}, graph.New(nil).Copy()} {
		for range 2 {
			for _, label := range []string{"a", "", "0"} {
				if id, e := g.AddNode(label); id != 0 || e != api.ErrUse {
					t.Errorf("AddNode: %d, %d", id, e)
				}
				if id, e := g.AddArc(label, 1, 1); id != 0 || e != api.ErrUse {
					t.Errorf("AddArc: %d, %d", id, e)
				}
			}
			for _, id := range []int64{0, 1, -1, math.MaxInt64} {
				if n, ok := g.Node(id); n.ID != 0 || n.Label != "" || n.Props != nil || ok {
					t.Errorf("Node: %v", n)
				}
				if a, ok := g.Arc(id); a.ID != 0 || a.Out != 0 || a.In != 0 || a.Label != "" || a.Props != nil || ok {
					t.Errorf("Arc: %v", a)
				}
				if g.SetNode(id, "", api.Value{Kind: 9}, true) != api.ErrLacks || g.SetArc(id, "k", val.None(), false) != api.ErrLacks {
					t.Error("Set")
				}
				if g.DropNode(id) || g.DropArc(id) {
					t.Error("Drop: true")
				}
				for dir := range 5 {
					numbers(t, "Arcs", g.Arcs(id, dir, nil))
				}
			}
			numbers(t, "Nodes", g.Nodes())
			numbers(t, "AllArcs", g.AllArcs())
			numbers(t, "ByLabel", g.ByLabel("a"))
			numbers(t, "ByProp", g.ByProp("a", val.None()))
			if n, a := g.Last(); n != 0 || a != 0 {
				t.Errorf("Last: %d, %d", n, a)
			}
			if g.Tx() != nil {
				t.Error("Tx")
			}
		}
	}
	var g *graph.Graph
	if g.Sound() || g.Copy() != nil {
		t.Error("a nil graph has something")
	}
	if g = graph.New(nil); g == nil || g.Copy() == nil || g.Copy().Tx() != nil {
		t.Error("a graph of nil")
	}
}

// TestTx: the transaction is the one that was handed over: what the graph does is done there.
func TestTx(t *testing.T) {
	x := tx.New(nil)
	g := graph.New(x)
	if g.Tx() != x {
		t.Error("Tx is another one")
	}
	node(t, g, "a")
	if s, ok := x.Get(1<<60 + 1); !ok || s != rawNode("a") {
		t.Errorf("the vertex' record: %q, %t", s, ok)
	}
	// And what is done there is seen by the graph, also by one that was made ahead of it.
	h := graph.New(x)
	node(t, h, "b")
	numbers(t, "Nodes", g.Nodes(), 1, 2)
	node(t, g, "c")
	numbers(t, "Nodes", h.Nodes(), 1, 2, 3)
	if !g.Sound() || !h.Sound() {
		t.Error("it isn't sound")
	}
}

// TestCopy: what is changed in one of two is not changed in the other one.
func TestCopy(t *testing.T) {
	for _, first := range []bool{true, false} {
		g, m := graph.New(tx.New(nil)), newModel()
		node(t, g, "a")
		arc(t, g, "e", 1, 1)
		m.addNode("a")
		m.addArc("e", 1, 1)
		h, n := g.Copy(), m.copy()
		if h.Tx() == g.Tx() {
			t.Error("the transaction is the same")
		}
		if first {
			g, h = h, g
		}
		set(t, g, 1, "k", val.Int(1))
		node(t, g, "b")
		m.setNode(1, "k", val.Int(1), false)
		m.addNode("b")
		stands(t, g, m)
		stands(t, h, n)
		h.DropNode(1)
		n.dropNode(1)
		stands(t, g, m)
		stands(t, h, n)
	}
}

// TestExample: two vertices, an edge, DropNode of the first.
func TestExample(t *testing.T) {
	g := graph.New(tx.New(nil))
	a, b := node(t, g, "a"), node(t, g, "b")
	arc(t, g, "e", a, b)
	if !g.DropNode(a) {
		t.Error("DropNode: false")
	}
	numbers(t, "Nodes", g.Nodes(), b)
	numbers(t, "AllArcs", g.AllArcs())
}
