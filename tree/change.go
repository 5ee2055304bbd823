package tree

import (
	"slices"
	"strings"

	"offshoot/api"
)

// step is a node on a way down from the root, and the place among its keys and kids at which the way goes on.
type step struct {
	id uint64
	n  node
	at int
}

// way is the way to a key, or to where it would be; and whether it is there.
func (t *Tree) way(k string) ([]step, bool) {
	if t.root == 0 {
		return nil, false
	}
	var way []step
	for id, on := t.root, true; on; {
		n := t.all.node(id)
		at, ok := n.find(k)
		way = append(way, step{id, n, at})
		if ok {
			return way, true
		}
		id, on = onward(way)
	}
	return way, false
}

// onward is the node to which a way leads next; false: it is at its end. It doesn't go round, nor for ever, whatever the records are.
func onward(way []step) (uint64, bool) {
	last := way[len(way)-1]
	if last.n.leaf() || len(way) == deepest {
		return 0, false
	}
	id := last.n.kids[last.at]
	return id, !slices.ContainsFunc(way, func(s step) bool { return s.id == id })
}

// Add puts a key: whether it was not there.
func (t *Tree) Add(k string) (bool, api.Errno) {
	if t == nil {
		return false, api.ErrUse
	}
	if len(k) > api.MostKey {
		return false, api.ErrMost
	}
	way, ok := t.way(k)
	if ok {
		return false, api.OK
	}
	t.own()
	t.put(way, strings.Clone(k))
	return true, api.OK
}

// put lays a key at a way's end; what has too many keys then is cut, from there up.
func (t *Tree) put(way []step, k string) {
	var right uint64 // the new node right of the key
	if n := len(way); n > 0 && !way[n-1].n.leaf() {
		// The way ends ahead of a leaf, as records go round: right of the key is a node that is not there yet.
		right = t.take()
	}
	for _, s := range slices.Backward(way) {
		n := s.n.with(s.at, k, right)
		if len(n.keys) <= api.MostKeys {
			t.lay(s.id, n)
			return
		}
		left, up, rest := n.halves()
		k, right = up, t.take()
		t.lay(s.id, left)
		t.lay(right, rest)
	}
	n := node{keys: []string{k}}
	if t.root != 0 {
		n.kids = []uint64{t.root, right}
	}
	t.root = t.take()
	t.lay(t.root, n)
}

// Drop takes a key away: whether it was there.
func (t *Tree) Drop(k string) bool {
	if t == nil {
		return false
	}
	way, ok := t.way(k)
	if ok {
		t.own()
		t.mend(t.pull(way))
	}
	return ok
}

// pull takes the key at a way's end away, and is the way to where a key is less then: the last one below takes its place, if there is one.
func (t *Tree) pull(way []step) []step {
	top := len(way) - 1
	way = t.down(way)
	if last := len(way) - 1; last > top {
		at := way[last].at - 1
		t.change(&way[top], way[top].n.instead(way[top].at, way[last].n.keys[at]))
		t.change(&way[last], way[last].n.without(at, at+1))
	} else {
		at := way[top].at
		t.change(&way[top], way[top].n.without(at, at))
	}
	return way
}

// down goes on with a way to the last key below.
func (t *Tree) down(way []step) []step {
	for id, on := onward(way); on; id, on = onward(way) {
		n := t.all.node(id)
		if len(n.keys) == 0 {
			break
		}
		way = append(way, step{id, n, len(n.keys)})
	}
	return way
}

// change lays a node of a way as it is now.
func (t *Tree) change(s *step, n node) {
	s.n = n
	t.lay(s.id, n)
}

// mend goes up a way: a kid with too few keys is evened out with the one beside it, and a root without keys gives its place to its kid.
func (t *Tree) mend(way []step) {
	for i := len(way) - 1; i > 0; i-- {
		if len(way[i].n.keys) < api.LeastKeys {
			up := &way[i-1]
			t.change(up, t.even(up.n, max(up.at-1, 0)))
		}
	}
	root := way[0]
	if len(root.n.keys) > 0 {
		return
	}
	t.leave(root.id)
	t.root = 0
	if !root.n.leaf() {
		t.root = root.n.kids[0]
	}
}

// even makes one node of the two kids beside a key, or cuts them in the middle, and is the node above them then.
func (t *Tree) even(up node, at int) node {
	left, right := up.kids[at], up.kids[at+1]
	n := t.join(t.all.node(left), up.keys[at], t.all.node(right))
	if len(n.keys) <= api.MostKeys {
		t.leave(right)
		t.lay(left, n)
		return up.without(at, at+1)
	}
	l, k, r := n.halves()
	t.lay(left, l)
	t.lay(right, r)
	return up.instead(at, k)
}

// join is two nodes and the key between them as one.
func (t *Tree) join(left node, k string, right node) node {
	if left.leaf() != right.leaf() {
		left, right = t.raise(left), t.raise(right)
	}
	return node{
		keys: slices.Concat(left.keys, []string{k}, right.keys),
		kids: slices.Concat(left.kids, right.kids),
	}
}

// raise gives a leaf kids without keys, where records that are not there make it stand beside a node with kids.
func (t *Tree) raise(n node) node {
	if n.leaf() {
		for range len(n.keys) + 1 {
			n.kids = append(n.kids, t.take())
		}
	}
	return n
}
