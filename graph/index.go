package graph

import (
	"slices"

	"offshoot/api"
	"offshoot/key"
	"offshoot/tree"
	"offshoot/val"
)

// What the index' keys begin with; each ends with the number of a vertex, or an edge.
const (
	labelKey = "l"
	valueKey = "p"
	outKey   = "o"
	inKey    = "i"

	partEnd = "/" // behind a value's key
)

func ofLabel(label string) string { return labelKey + key.Name(label) }

func ofValue(k string, v api.Value) string {
	s := key.Of(v)
	return valueKey + key.Name(k) + s[:min(len(s), api.KeyPart)] + partEnd
}

func ofEnd(side string, id int64) string { return side + key.ID(id) }

// keys is the index' keys of a thing, each once: values of which but the first bytes stand there may have one together.
func (x thing) keys(id int64) []string {
	if len(x.ends) > 0 {
		return []string{
			ofEnd(outKey, x.ends[outEnd].N) + key.Name(x.label) + key.ID(id),
			ofEnd(inKey, x.ends[inEnd].N) + key.Name(x.label) + key.ID(id),
		}
	}
	l := []string{ofLabel(x.label) + key.ID(id)}
	for _, p := range x.props {
		for _, v := range p.L {
			if k := ofValue(p.Key, v) + key.ID(id); !slices.Contains(l, k) {
				l = append(l, k)
			}
		}
	}
	return l
}

// keys is the index.
func (g *Graph) keys(h head) *tree.Tree { return tree.New(g.Tx().Get, h.root, h.next) }

// index takes the keys that are no more out of the index, puts those that are new there, and lays record 0 with it.
func (g *Graph) index(h head, old, now []string) {
	t := g.keys(h)
	for _, k := range old {
		if !slices.Contains(now, k) {
			t.Drop(k)
		}
	}
	for _, k := range now {
		t.Add(k)
	}
	g.t.Apply(t.Changes())
	h.next, h.root = t.Next(), t.Root()
	g.t.Put(place(headKind, 0), h.bytes())
}

// find is the numbers of things of a kind that are such, of those that have a key that begins in one of some ways; rising. Each is looked at itself, as a key does not tell all of a value.
func (g *Graph) find(kind int, such func(thing) bool, begins ...string) []int64 {
	h, _ := g.head()
	t := g.keys(h)
	var l []int64
	for _, s := range begins {
		for k := range t.Range(key.Begin(s)) {
			id := int64(val.Wide(k[max(0, len(k)-numberBytes):]))
			if x, ok := g.thing(kind, id); ok && such(x) {
				l = append(l, id)
			}
		}
	}
	slices.Sort(l)
	return slices.Compact(l)
}

func whichever(thing) bool { return true }

// Nodes is all vertices.
func (g *Graph) Nodes() []int64 { return g.find(nodeKind, whichever, labelKey) }

// AllArcs is all edges.
func (g *Graph) AllArcs() []int64 { return g.find(arcKind, whichever, outKey) }

// ByLabel is the vertices of a label.
func (g *Graph) ByLabel(label string) []int64 {
	return g.find(nodeKind, func(x thing) bool { return x.label == label }, ofLabel(label))
}

// ByProp is the vertices with a value of a property.
func (g *Graph) ByProp(k string, v api.Value) []int64 {
	// No vertex has a value that is too great; the key of such a one might have no end.
	if val.Check(v) == api.ErrMost {
		return nil
	}
	such := func(x thing) bool {
		return slices.ContainsFunc(Values(x.props, k), func(w api.Value) bool { return val.Same(v, w) })
	}
	return g.find(nodeKind, such, ofValue(k, v))
}

// Arcs is a vertex' edges in a direction, of some labels (none: of any): of Both first those that go out; of each direction by their numbers.
func (g *Graph) Arcs(id int64, dir int, labels []string) []int64 {
	switch dir {
	case api.Out:
		return g.arcs(id, outEnd, outKey, labels)
	case api.In:
		return g.arcs(id, inEnd, inKey, labels)
	case api.Both:
		return append(g.Arcs(id, api.Out, labels), g.Arcs(id, api.In, labels)...)
	}
	return nil
}

// arcs is the edges of which a vertex is one end.
func (g *Graph) arcs(id int64, end int, side string, labels []string) []int64 {
	such := func(x thing) bool {
		return x.ends[end].N == id && (len(labels) == 0 || slices.Contains(labels, x.label))
	}
	begins := []string{ofEnd(side, id)}
	if len(labels) > 0 {
		begins = nil
		for _, s := range labels {
			begins = append(begins, ofEnd(side, id)+key.Name(s))
		}
	}
	return g.find(arcKind, such, begins...)
}
