package graph

import (
	"math"
	"slices"

	"offshoot/api"
	"offshoot/tree"
)

// mostMade is how many vertices, or edges, may have been made: the limits of all of it let by no more. To look for all that greater numbers tell of would take for ever.
const mostMade = math.MaxInt32

func made(last int64) bool { return last >= 0 && last <= mostMade }

// Sound tells whether the index is just that of all vertices and edges.
func (g *Graph) Sound() bool {
	h, ok := g.head()
	if g == nil || !ok || h.next < firstLeaf || !made(h.node) || !made(h.arc) {
		return false
	}
	t := tree.New(leaves{g, h}.get, h.root, h.next)
	if _, ok := t.Sound(); !ok {
		return false
	}
	want := append(g.wanted(nodeKind, h.node), g.wanted(arcKind, h.arc)...)
	slices.Sort(want)
	return slices.Equal(want, slices.Collect(t.Range(api.Span{})))
}

// wanted is the keys of all things of a kind: of those whose numbers were given, and of those that were laid beside the graph.
func (g *Graph) wanted(kind int, last int64) []string {
	var l []string
	add := func(id int64) {
		if x, ok := g.thing(kind, id); ok {
			l = append(l, x.keys(id)...)
		}
	}
	for n := range last {
		add(n + 1)
	}
	for _, c := range g.Tx().Changes() {
		if id := int64(c.ID - place(kind, 0)); id > last {
			add(id)
		}
	}
	return l
}

// leaves is the records in which the index may have nodes: those of numbers that it has given.
type leaves struct {
	g *Graph
	h head
}

func (l leaves) get(id uint64) (string, bool) {
	if id < firstLeaf || id >= l.h.next {
		return "", false
	}
	return l.g.Tx().Get(id)
}
