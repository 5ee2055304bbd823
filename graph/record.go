package graph

import (
	"slices"

	"offshoot/api"
	"offshoot/val"
)

// Kinds of records: each has the numbers from 2^60 times its own on.
const (
	headKind = iota
	nodeKind
	arcKind
	leafKind
)

const (
	kindBits  = 60                     // of a record's number, behind its kind
	firstLeaf = leafKind<<kindBits + 1 // the index' first node

	headBytes   = 32
	numberBytes = 8
)

// place is the number of a record.
func place(kind int, id int64) uint64 { return uint64(kind)<<kindBits + uint64(id) }

// given tells whether a vertex or an edge may have a number: beyond it stand the records of the next kind.
func given(id int64) bool { return id > 0 && id < 1<<kindBits }

// head is record 0: the vertex and the edge that were made last, and the index' next node and its root.
type head struct {
	node, arc  int64
	next, root uint64
}

// head is record 0 as it is, and whether it may be so.
func (g *Graph) head() (head, bool) {
	s, ok := g.Tx().Get(place(headKind, 0))
	if len(s) != headBytes {
		return head{next: firstLeaf}, !ok
	}
	return head{
		node: int64(val.Wide(s)),
		arc:  int64(val.Wide(s[numberBytes:])),
		next: val.Wide(s[2*numberBytes:]),
		root: val.Wide(s[3*numberBytes:]),
	}, true
}

func (h head) bytes() string {
	return val.Eight(uint64(h.node)) + val.Eight(uint64(h.arc)) + val.Eight(h.next) + val.Eight(h.root)
}

// last is the number of a kind that was given last.
func (h *head) last(kind int) *int64 {
	if kind == nodeKind {
		return &h.node
	}
	return &h.arc
}

// Ends of an edge, by their places.
const (
	outEnd = iota
	inEnd
)

// thing is a vertex or an edge.
type thing struct {
	label string
	ends  []api.Value // of an edge: two vertices
	props []api.Prop  // by their keys
}

// bytes is a thing's record.
func (x thing) bytes() (string, api.Errno) {
	parts := append([]api.Value{val.Text(x.label)}, x.ends...)
	s, e := val.Put(val.List(append(parts, putProps(x.props))...))
	if e != api.OK {
		return "", e
	}
	if len(s) > api.MostBody {
		return "", api.ErrBig
	}
	return s, api.OK
}

// has tells whether there is a vertex, or an edge, of a number.
func (g *Graph) has(kind int, id int64) bool {
	_, ok := g.thing(kind, id)
	return ok
}

// thing is a vertex or an edge; false: its record is not there, or is of another form.
func (g *Graph) thing(kind int, id int64) (thing, bool) {
	if !given(id) {
		return thing{}, false
	}
	s, ok := g.Tx().Get(place(kind, id))
	if !ok {
		return thing{}, false
	}
	v, n, e := val.Get(s)
	if e != api.OK || n != len(s) || v.Kind != api.List {
		return thing{}, false
	}
	return getThing(kind, v.L)
}

// getThing is the thing of which a record has the parts.
func getThing(kind int, l []api.Value) (thing, bool) {
	last := len(l) - 1
	if kind == nodeKind && last != 1 || kind == arcKind && last != 3 {
		return thing{}, false
	}
	ends := l[1:last]
	if !Name(l[0].S) || slices.ContainsFunc(ends, func(v api.Value) bool { return v.Kind != api.Vertex }) {
		return thing{}, false
	}
	props, ok := getProps(l[last])
	if !ok {
		return thing{}, false
	}
	return thing{label: l[0].S, ends: ends, props: props}, true
}
