package graph_test

import (
	"cmp"
	"fmt"
	"maps"
	"slices"
	"strings"
	"testing"

	"offshoot/api"
	"offshoot/graph"
	"offshoot/key"
	"offshoot/tree"
	"offshoot/tx"
	"offshoot/val"
)

// Numbers of records, told here once more.
const (
	nodeAt = 1 << 60
	arcAt  = 2 << 60
	leafAt = 3<<60 + 1
)

// records are by their numbers.
type records map[uint64]string

func (r records) get(id uint64) (string, bool) {
	s, ok := r[id]
	return s, ok
}

// recordsOf is all records of a graph over none.
func recordsOf(g *graph.Graph) records {
	r := records{}
	for _, c := range g.Tx().Changes() {
		r[c.ID] = c.S
	}
	return r
}

// over is a graph over records, and changes of these.
func over(r records, l ...api.Change) *graph.Graph {
	n := records{}
	maps.Copy(n, r)
	for _, c := range l {
		if c.Gone {
			delete(n, c.ID)
		} else {
			n[c.ID] = c.S
		}
	}
	return graph.New(tx.New(n.get))
}

func laid(id uint64, s string) api.Change { return api.Change{ID: id, S: s} }

func gone(id uint64) api.Change { return api.Change{ID: id, Gone: true} }

// told is changes as a text that shows of which bytes they are.
func told(l []api.Change) string {
	var s strings.Builder
	for _, c := range l {
		fmt.Fprintf(&s, "{%x %.20q %t}", c.ID, c.S, c.Gone)
	}
	return "[" + s.String() + "]"
}

// eight is a number's bytes, the highest first.
func eight(n uint64) string {
	var b [8]byte
	for i := range b {
		b[7-i] = byte(n)
		n /= 256
	}
	return string(b[:])
}

// text is the bytes of a short text as a value.
func text(s string) string { return "\x04\x00" + string([]byte{byte(len(s))}) + s }

func bytesOf(t *testing.T, v api.Value) string {
	t.Helper()
	s, e := val.Put(v)
	if e != api.OK {
		t.Fatalf("%v may not be: %d", v, e)
	}
	return s
}

// rawNode is a vertex' record.
func rawNode(label string, props ...api.Value) string {
	s, _ := val.Put(val.List(val.Text(label), val.Map(props...)))
	return s
}

// rawArc is an edge's record.
func rawArc(label string, from, to int64, props ...api.Value) string {
	s, _ := val.Put(val.List(val.Text(label), val.Vertex(from), val.Vertex(to), val.Map(props...)))
	return s
}

// rawHead is record 0.
func rawHead(node, arc, next, root uint64) string {
	return eight(node) + eight(arc) + eight(next) + eight(root)
}

func one(v api.Value) api.Value { return val.Map(val.None(), v) }

func node(t *testing.T, g *graph.Graph, label string) int64 {
	t.Helper()
	id, e := g.AddNode(label)
	if e != api.OK {
		t.Fatalf("AddNode(%q): %d, %d", label, id, e)
	}
	return id
}

func arc(t *testing.T, g *graph.Graph, label string, from, to int64) int64 {
	t.Helper()
	id, e := g.AddArc(label, from, to)
	if e != api.OK {
		t.Fatalf("AddArc(%q, %d, %d): %d, %d", label, from, to, id, e)
	}
	return id
}

func set(t *testing.T, g *graph.Graph, id int64, k string, l ...api.Value) {
	t.Helper()
	for i, v := range l {
		if e := g.SetNode(id, k, v, len(l) > 1 || i > 0); e != api.OK {
			t.Fatalf("SetNode(%d, %q, %v): %d", id, k, v, e)
		}
	}
}

// numbers holds a list of numbers.
func numbers(t *testing.T, what string, l []int64, want ...int64) {
	t.Helper()
	if !slices.Equal(l, want) {
		t.Errorf("%s: %d, must be %d", what, l, want)
	}
}

// model is what a graph must be, kept in the plainest way.
type model struct {
	nodes             map[int64]api.Node
	arcs              map[int64]api.Arc
	lastNode, lastArc int64
}

func newModel() *model { return &model{nodes: map[int64]api.Node{}, arcs: map[int64]api.Arc{}} }

func (m *model) copy() *model {
	n := *m
	n.nodes, n.arcs = maps.Clone(m.nodes), maps.Clone(m.arcs)
	return &n
}

func propsValue(l []api.Prop) api.Value {
	v := api.Value{Kind: api.Map}
	for _, p := range l {
		if p.List {
			v.L = append(v.L, val.Text(p.Key), val.List(p.L...))
		} else {
			v.L = append(v.L, val.Text(p.Key), one(p.L[0]))
		}
	}
	return v
}

func nodeValue(n api.Node) api.Value { return val.List(val.Text(n.Label), propsValue(n.Props)) }

func arcValue(a api.Arc) api.Value {
	return val.List(val.Text(a.Label), val.Vertex(a.Out), val.Vertex(a.In), propsValue(a.Props))
}

// put is properties with a value more.
func put(l []api.Prop, k string, v api.Value, list bool) []api.Prop {
	out := []api.Prop{}
	p := api.Prop{Key: k, List: list, L: []api.Value{v}}
	for _, q := range l {
		if q.Key != k {
			out = append(out, q)
		} else if list && q.List {
			p.L = append(append([]api.Value{}, q.L...), v)
		}
	}
	out = append(out, p)
	slices.SortFunc(out, func(a, b api.Prop) int { return cmp.Compare(a.Key, b.Key) })
	return out
}

// mayBe is the error of a property.
func mayBe(k string, v api.Value, record api.Value) api.Errno {
	if !plain(k) {
		return api.ErrName
	}
	if e := val.Check(v); e != api.OK {
		return e
	}
	s, e := val.Put(record)
	if e == api.OK && len(s) > 498 {
		return api.ErrBig
	}
	return e
}

// plain tells whether a text is a name.
func plain(s string) bool {
	const letters = "abcdefghijklmnopqrstuvwxyzABCDEFGHIJKLMNOPQRSTUVWXYZ_"
	return s != "" && len(s) <= 16 && strings.Contains(letters, s[:1]) && strings.Trim(s, letters+"0123456789") == ""
}

func (m *model) addNode(label string) (int64, api.Errno) {
	if !plain(label) {
		return 0, api.ErrName
	}
	m.lastNode++
	m.nodes[m.lastNode] = api.Node{ID: m.lastNode, Label: label}
	return m.lastNode, api.OK
}

func (m *model) addArc(label string, from, to int64) (int64, api.Errno) {
	if !plain(label) {
		return 0, api.ErrName
	}
	if m.nodes[from].ID == 0 || m.nodes[to].ID == 0 {
		return 0, api.ErrLacks
	}
	m.lastArc++
	m.arcs[m.lastArc] = api.Arc{ID: m.lastArc, Label: label, Out: from, In: to}
	return m.lastArc, api.OK
}

func (m *model) setNode(id int64, k string, v api.Value, list bool) api.Errno {
	n, ok := m.nodes[id]
	if !ok {
		return api.ErrLacks
	}
	n.Props = put(n.Props, k, v, list)
	e := mayBe(k, v, nodeValue(n))
	if e == api.OK {
		m.nodes[id] = n
	}
	return e
}

func (m *model) setArc(id int64, k string, v api.Value, list bool) api.Errno {
	a, ok := m.arcs[id]
	if !ok {
		return api.ErrLacks
	}
	a.Props = put(a.Props, k, v, list)
	e := mayBe(k, v, arcValue(a))
	if e == api.OK {
		m.arcs[id] = a
	}
	return e
}

func (m *model) dropArc(id int64) bool {
	_, ok := m.arcs[id]
	delete(m.arcs, id)
	return ok
}

func (m *model) dropNode(id int64) bool {
	_, ok := m.nodes[id]
	delete(m.nodes, id)
	if ok {
		maps.DeleteFunc(m.arcs, func(_ int64, a api.Arc) bool { return a.Out == id || a.In == id })
	}
	return ok
}

func (m *model) nodesOf(such func(api.Node) bool) []int64 {
	var l []int64
	for _, id := range slices.Sorted(maps.Keys(m.nodes)) {
		if such(m.nodes[id]) {
			l = append(l, id)
		}
	}
	return l
}

func (m *model) arcsOf(such func(api.Arc) bool) []int64 {
	var l []int64
	for _, id := range slices.Sorted(maps.Keys(m.arcs)) {
		if such(m.arcs[id]) {
			l = append(l, id)
		}
	}
	return l
}

// index is the keys that the index must have.
func (m *model) index() []string {
	var l []string
	for id, n := range m.nodes {
		l = append(l, "l"+key.Name(n.Label)+eight(uint64(id)))
		for _, p := range n.Props {
			for _, v := range p.L {
				k := key.Of(v)
				if len(k) > 40 {
					k = k[:40]
				}
				l = append(l, "p"+key.Name(p.Key)+k+"/"+eight(uint64(id)))
			}
		}
	}
	for id, a := range m.arcs {
		l = append(l, "o"+eight(uint64(a.Out))+key.Name(a.Label)+eight(uint64(id)), "i"+eight(uint64(a.In))+key.Name(a.Label)+eight(uint64(id)))
	}
	slices.Sort(l)
	return slices.Compact(l)
}

// stands holds all of a graph: its records, its index, and what it tells of both.
func stands(t *testing.T, g *graph.Graph, m *model) {
	t.Helper()
	node, arc := g.Last()
	if node != m.lastNode || arc != m.lastArc {
		t.Errorf("Last: %d, %d, must be %d, %d", node, arc, m.lastNode, m.lastArc)
	}
	root := m.records(t, g)
	x := tree.New(g.Tx().Get, root, 0)
	if got, want := slices.Collect(x.Range(api.Span{})), m.index(); !slices.Equal(got, want) {
		t.Errorf("index %q, must be %q", got, want)
	}
	if _, ok := x.Sound(); !ok || !g.Sound() {
		t.Error("it isn't sound")
	}
	numbers(t, "Nodes", g.Nodes(), m.nodesOf(func(api.Node) bool { return true })...)
	numbers(t, "AllArcs", g.AllArcs(), m.arcsOf(func(api.Arc) bool { return true })...)
	for id := range m.lastNode + 3 {
		n, ok := g.Node(id - 1)
		if want, is := m.nodes[id-1]; ok != is || !same(n.Props, want.Props) || n.ID != want.ID || n.Label != want.Label {
			t.Errorf("Node(%d): %v, %t, must be %v", id-1, n, ok, want)
		}
	}
	for id := range m.lastArc + 3 {
		a, ok := g.Arc(id - 1)
		want, is := m.arcs[id-1]
		if ok != is || !same(a.Props, want.Props) || a.ID != want.ID || a.Label != want.Label || a.Out != want.Out || a.In != want.In {
			t.Errorf("Arc(%d): %v, %t, must be %v", id-1, a, ok, want)
		}
	}
}

// records holds the records beside those of the index' nodes, whose numbers it holds; it tells the index' root.
func (m *model) records(t *testing.T, g *graph.Graph) uint64 {
	t.Helper()
	for id := range m.lastNode + 2 {
		s, ok := g.Tx().Get(nodeAt + uint64(id))
		if n, is := m.nodes[id]; ok != is || is && s != bytesOf(t, nodeValue(n)) {
			t.Errorf("record of vertex %d: %q, %t", id, s, ok)
		}
	}
	for id := range m.lastArc + 2 {
		s, ok := g.Tx().Get(arcAt + uint64(id))
		if a, is := m.arcs[id]; ok != is || is && s != bytesOf(t, arcValue(a)) {
			t.Errorf("record of edge %d: %q, %t", id, s, ok)
		}
	}
	s, ok := g.Tx().Get(0)
	if !ok && m.lastNode == 0 {
		return 0
	}
	if len(s) != 32 || s[:16] != eight(uint64(m.lastNode))+eight(uint64(m.lastArc)) {
		t.Fatalf("record 0: %q, %t", s, ok)
	}
	next, root := val.Wide(s[16:]), val.Wide(s[24:])
	if next < leafAt || root != 0 && (root < leafAt || root >= next) {
		t.Errorf("the index' next node is %x, its root %x", next, root)
	}
	for _, c := range g.Tx().Changes() {
		if at := c.ID >> 60; at > 3 || at == 0 && c.ID != 0 || c.ID > leafAt && c.ID >= next || !c.Gone && len(c.S) > api.MostBody {
			t.Errorf("record %x of %d bytes: nobody's", c.ID, len(c.S))
		}
	}
	return root
}

// same tells whether two lists of properties are the same, bit by bit.
func same(a, b []api.Prop) bool {
	return len(a) == 0 && len(b) == 0 || fmt.Sprint(a) == fmt.Sprint(b) && len(a) == len(b) && slices.EqualFunc(a, b, func(a, b api.Prop) bool {
		return a.Key == b.Key && a.List == b.List && slices.EqualFunc(a.L, b.L, val.Same)
	})
}

// unchanged holds that what is done changes no record.
func unchanged(t *testing.T, g *graph.Graph, do func()) {
	t.Helper()
	was := g.Tx().Changes()
	do()
	if l := g.Tx().Changes(); !slices.Equal(l, was) {
		t.Errorf("changes %s, must be %s", told(l), told(was))
	}
}

// unsound holds that a graph's index is not as it must be.
func unsound(t *testing.T, what string, g *graph.Graph) {
	t.Helper()
	if g.Sound() {
		t.Errorf("%s: it is sound", what)
	}
}
