package graph_test

import (
	"math"
	"slices"
	"strings"
	"testing"

	"offshoot/api"
	"offshoot/graph"
	"offshoot/key"
	"offshoot/tree"
	"offshoot/tx"
	"offshoot/val"
)

// town is a graph of some vertices and edges, with properties; vertex 4 and edge 3 went again.
func town(t *testing.T) *graph.Graph {
	t.Helper()
	g := graph.New(tx.New(nil))
	for _, l := range []string{"a", "b", "a", "c", "b"} {
		node(t, g, l)
	}
	set(t, g, 1, "k", val.Int(1))
	set(t, g, 2, "k", val.Text(strings.Repeat("x", 60)), val.Text(strings.Repeat("x", 61)), val.Int(1))
	set(t, g, 2, "j", val.List(val.Int(1)))
	for _, c := range [][2]int64{{1, 2}, {2, 2}, {4, 1}, {3, 1}, {1, 2}} {
		arc(t, g, "e", c[0], c[1])
	}
	g.SetArc(2, "k", val.Int(1), false)
	g.DropNode(4)
	if !g.Sound() {
		t.Fatal("it isn't sound")
	}
	return g
}

// townKeys is the keys of its index.
func townKeys() []string {
	of := func(s string, id uint64) string { return s + eight(id) }
	x := "\x05" + strings.Repeat("x", 39)
	l := []string{
		of("la\x00\x00", 1), of("lb\x00\x00", 2), of("la\x00\x00", 3), of("lb\x00\x00", 5),
		of("pk\x00\x00"+key.Of(val.Int(1))+"/", 1), of("pk\x00\x00"+key.Of(val.Int(1))+"/", 2), of("pk\x00\x00"+x+"/", 2), of("pj\x00\x00"+key.Of(val.List(val.Int(1)))+"/", 2),
	}
	for id, c := range map[uint64][2]uint64{1: {1, 2}, 2: {2, 2}, 4: {3, 1}, 5: {1, 2}} {
		l = append(l, of(of("o", c[0])+"e\x00\x00", id), of(of("i", c[1])+"e\x00\x00", id))
	}
	slices.Sort(l)
	return l
}

// without has records without those of an index.
func without(r records) records {
	n := records{}
	for id, s := range r {
		if id < leafAt {
			n[id] = s
		}
	}
	return n
}

// indexed has the records of a graph with an index of these keys, in their order, whose nodes have numbers from one on.
func indexed(r records, keys []string, next uint64) []api.Change {
	x := tree.New(nil, 0, next)
	for _, k := range keys {
		x.Add(k)
	}
	node, arc := val.Wide(r[0]), val.Wide(r[0][8:])
	return append(x.Changes(), laid(0, rawHead(node, arc, x.Next(), x.Root())))
}

// TestSoundKeys: the index has just the keys of all vertices and edges, in whatever way they came there.
func TestSoundKeys(t *testing.T) {
	r := without(recordsOf(town(t)))
	l := townKeys()
	for i := range l {
		other := append(slices.Clone(l[i:]), l[:i]...)
		g := over(r, indexed(r, other, leafAt)...)
		if !g.Sound() {
			t.Errorf("in another order, from %d on: it isn't sound", i)
		}
		if n, _ := g.Node(2); !g.Sound() || len(n.Props) != 2 || !slices.Equal(g.ByLabel("b"), []int64{2, 5}) {
			t.Error("it is another graph")
		}
		unsound(t, "without "+l[i], over(r, indexed(r, slices.Delete(slices.Clone(l), i, i+1), leafAt)...))
		for _, k := range []string{l[i][:len(l[i])-1], l[i] + "\x00", l[i][:len(l[i])-8] + eight(6), l[i][:len(l[i])-8] + eight(4), l[i][1:], "q" + l[i][1:], strings.ToUpper(l[i][:1]) + l[i][1:]} {
			if slices.Contains(l, k) {
				continue
			}
			unsound(t, "with "+k, over(r, indexed(r, append(slices.Clone(l), k), leafAt)...))
			unsound(t, "with another one, "+k, over(r, indexed(r, append(slices.Delete(slices.Clone(l), i, i+1), k), leafAt)...))
		}
	}
	for _, k := range []string{"", "l", "a", "\xff", "lb\x00\x00" + eight(1), "pk\x00\x00" + key.Of(val.Int(2)) + "/" + eight(1), "o" + eight(2) + "e\x00\x00" + eight(1)} {
		unsound(t, "with "+k, over(r, indexed(r, append(slices.Clone(l), k), leafAt)...))
	}
	unsound(t, "without keys", over(r, indexed(r, nil, leafAt)...))
}

// TestSoundPlace: the index' nodes have the numbers that are the index' own.
func TestSoundPlace(t *testing.T) {
	r := without(recordsOf(town(t)))
	for next, want := range map[uint64]bool{leafAt: true, leafAt + 1: true, leafAt + 1000: true, 7 << 60: true, 3 << 60: false, leafAt - 3: false, 100: false, 1<<60 + 100: false, 2<<60 + 100: false} {
		if g := over(r, indexed(r, townKeys(), next)...); g.Sound() != want {
			t.Errorf("nodes from %x on: %t", next, !want)
		}
	}
	// The next one's number is above all.
	all := recordsOf(town(t))
	head := all[0]
	next, root := val.Wide(head[16:]), val.Wide(head[24:])
	for n := leafAt - 2; n < int(next)+3; n++ {
		_, ok := all[uint64(n)]
		want := n >= int(next)
		if g := over(all, laid(0, rawHead(5, 5, uint64(n), root))); g.Sound() != want && ok {
			t.Errorf("the next node is %x: %t", n, !want)
		}
		unsound(t, "of another root", over(all, laid(0, rawHead(5, 5, next, uint64(n)+next-leafAt+1))))
	}
	unsound(t, "next 0", over(all, laid(0, rawHead(5, 5, 0, root))))
	unsound(t, "root 0", over(all, laid(0, rawHead(5, 5, next, 0))))
	unsound(t, "root 1", over(all, laid(0, rawHead(5, 5, next, 1))))
	unsound(t, "a root that is a vertex", over(all, laid(0, rawHead(5, 5, next, nodeAt+1))))
}

// TestSoundRecords: each record made another one.
func TestSoundRecords(t *testing.T) {
	all := recordsOf(town(t))
	for id := range all {
		if id > 0 {
			unsound(t, "without a record", over(all, gone(id)))
		}
		unsound(t, "with an empty record", over(all, laid(id, "")))
		unsound(t, "with a record and a byte behind it", over(all, laid(id, all[id]+"\x00")))
		unsound(t, "with a record without its last byte", over(all, laid(id, all[id][:len(all[id])-1])))
		if id > leafAt {
			// A node that has not all of its keys.
			keys, kids, _ := tree.Decode(all[id])
			if len(kids) == 0 {
				unsound(t, "with a node of a key less", over(all, laid(id, tree.Encode(keys[1:], nil))))
			}
			keys[0] += "\x00"
			unsound(t, "with a node of another key", over(all, laid(id, tree.Encode(keys, kids))))
		}
	}
	k := func(l ...api.Value) []api.Value { return append([]api.Value{val.Text("k")}, l...) }
	for _, c := range []api.Change{
		laid(nodeAt+1, rawNode("b", k(one(val.Int(1)))...)), laid(nodeAt+1, rawNode("a")), laid(nodeAt+1, rawNode("a", k(one(val.Int(2)))...)), laid(nodeAt+1, rawNode("a", val.Text("l"), one(val.Int(1)))), laid(nodeAt+1, rawNode("a", k(val.List(val.Int(1), val.Int(2)))...)), laid(nodeAt+1, rawNode("a", k(one(val.Float(1)))...)), laid(nodeAt+1, rawNode("a", k(one(val.List(val.Int(1))))...)),
		laid(nodeAt+1, all[arcAt+1]), laid(nodeAt+1, all[nodeAt+2]), laid(nodeAt+4, all[nodeAt+1]), laid(nodeAt+5, all[nodeAt+3]),
		laid(arcAt+1, rawArc("f", 1, 2)), laid(arcAt+1, rawArc("e", 2, 1)), laid(arcAt+1, rawArc("e", 1, 1)), laid(arcAt+1, rawArc("e", 3, 2)), laid(arcAt+1, all[nodeAt+3]), laid(arcAt+3, all[arcAt+1]), laid(arcAt+2, all[arcAt+1]),
		laid(0, rawHead(1, 5, val.Wide(all[0][16:]), val.Wide(all[0][24:]))), laid(0, rawHead(5, 4, val.Wide(all[0][16:]), val.Wide(all[0][24:]))), laid(0, strings.Repeat("\x00", 32)),
	} {
		unsound(t, "with another record", over(all, c))
	}
	for _, c := range []api.Change{
		// A vertex has a list instead of a value: the index has the same of both. An edge's properties are not in it.
		laid(nodeAt+1, rawNode("a", k(val.List(val.Int(1)))...)), laid(nodeAt+1, rawNode("a", k(val.List(val.Int(1), val.Int(1)))...)),
		laid(arcAt+1, rawArc("e", 1, 2, k(one(val.Int(1)))...)), laid(arcAt+2, rawArc("e", 2, 2)),
		// Numbers were given, and went again; records that are no thing's.
		laid(0, rawHead(9, 9, val.Wide(all[0][16:])+9, val.Wide(all[0][24:]))), laid(nodeAt+4, "no vertex"), laid(arcAt+3, rawNode("a")), laid(7, "nobody's"), laid(nodeAt, all[nodeAt+1]), laid(arcAt, all[arcAt+1]),
	} {
		if !over(all, c).Sound() {
			t.Errorf("with %x %q: it isn't sound", c.ID, c.S)
		}
	}
}

// TestSoundEnds: that an edge's ends are there is not asked of the index.
func TestSoundEnds(t *testing.T) {
	r := without(recordsOf(town(t)))
	l := slices.DeleteFunc(townKeys(), func(k string) bool { return k[0] != 'o' && k[0] != 'i' && strings.HasSuffix(k, eight(2)) })
	g := over(r, append(indexed(r, l, leafAt), gone(nodeAt+2))...)
	if _, ok := g.Node(2); ok || !g.Sound() {
		t.Error("an edge without its end: it isn't sound")
	}
}

// TestSoundChanged: what is done to the records beside the graph is seen, also where nobody gave the number.
func TestSoundChanged(t *testing.T) {
	for _, c := range []api.Change{
		gone(0), gone(nodeAt + 1), gone(arcAt + 1), gone(val.Wide(recordsOf(town(t))[0][24:])), laid(nodeAt+4, rawNode("a")), laid(nodeAt+6, rawNode("a")), laid(nodeAt+1<<59, rawNode("a")), laid(nodeAt+1<<60-1, rawNode("a")), laid(arcAt+6, rawArc("e", 1, 2)), laid(arcAt+1<<60-1, rawArc("e", 1, 2)),
	} {
		g := town(t)
		g.Tx().Apply([]api.Change{c})
		unsound(t, "with a change", g)
	}
	for _, c := range []api.Change{laid(nodeAt+6, "no vertex"), laid(nodeAt+6, rawArc("e", 1, 2)), laid(arcAt+6, rawNode("a")), gone(nodeAt + 6), laid(5<<60+6, rawNode("a")), laid(9<<60+1, rawNode("a")), laid(10<<60+1, rawArc("e", 1, 2)), laid(1, rawNode("a")), laid(math.MaxUint64, rawNode("a"))} {
		g := town(t)
		g.Tx().Apply([]api.Change{c})
		if !g.Sound() {
			t.Errorf("with %x %q: it isn't sound", c.ID, c.S)
		}
	}
	// One that nobody gave, but that the index has, too.
	g := town(t)
	g.Tx().Put(nodeAt+6, rawNode("a"))
	r := recordsOf(g)
	g.Tx().Apply(indexed(r, append(townKeys(), "la\x00\x00"+eight(6)), leafAt+100))
	if !g.Sound() {
		t.Error("it isn't sound")
	}
}

// TestSoundNone: without records all is as it must be.
func TestSoundNone(t *testing.T) {
	for _, g := range []*graph.Graph{graph.New(tx.New(nil)), over(records{0: rawHead(0, 0, leafAt, 0)}), over(records{0: rawHead(3, 4, leafAt+5, 0)}), graph.New(nil), {}} {
		if !g.Sound() {
			t.Error("it isn't sound")
		}
	}
	for _, s := range []string{"", "x", rawHead(0, 0, leafAt, 0)[:31], rawHead(0, 0, leafAt, 0) + "\x00", rawHead(0, 0, leafAt-1, 0), rawHead(0, 0, 0, 0), rawHead(0, 0, leafAt+1, leafAt), rawHead(1<<31, 0, leafAt, 0), rawHead(0, 1<<31, leafAt, 0), rawHead(1<<63, 0, leafAt, 0), rawHead(0, 1<<63, leafAt, 0), rawHead(math.MaxUint64, 0, leafAt, 0), rawHead(1<<60-1, 0, leafAt, 0), rawHead(1<<62, 1<<62, leafAt, 0)} {
		unsound(t, "of record 0 alone", over(records{0: s}))
	}
}
