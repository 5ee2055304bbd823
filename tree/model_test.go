package tree_test

import (
	"maps"
	"math/rand"
	"slices"
	"testing"

	"offshoot/api"
	"offshoot/tree"
)

// part is a node, with what is below it.
type part struct {
	id   uint64
	keys []string
	kids []*part
}

// model is a tree as the chapter tells it.
type model struct {
	root *part
	next uint64
	is   records             // of all nodes
	laid map[uint64]struct{} // since it was begun
	gone map[uint64]struct{}
}

func newModel(next uint64) *model {
	m := &model{next: next}
	m.anew()
	return m
}

// anew begins it over the records that are there.
func (m *model) anew() {
	m.is, m.laid, m.gone = m.root.records(records{}), map[uint64]struct{}{}, map[uint64]struct{}{}
}

func (p *part) records(r records) records {
	if p == nil {
		return r
	}
	var ids []uint64
	for _, k := range p.kids {
		ids = append(ids, k.id)
		k.records(r)
	}
	r[p.id] = form(p.keys, ids...)
	return r
}

// lay marks nodes that are others than they were, if but for a moment.
func (m *model) lay(l ...*part) {
	for _, p := range l {
		m.laid[p.id] = struct{}{}
	}
}

// did tells what went, and holds that nothing else is another one than what was laid.
func (m *model) did() {
	now := m.root.records(records{})
	for id, s := range now {
		if _, ok := m.laid[id]; !ok && m.is[id] != s {
			panic("the model changed a node that it did not lay")
		}
	}
	for id := range m.is {
		if _, ok := now[id]; !ok {
			delete(m.laid, id)
			m.gone[id] = struct{}{}
		}
	}
	m.is = now
}

func (m *model) changes() []api.Change {
	var l []api.Change
	for _, id := range slices.Sorted(maps.Keys(m.laid)) {
		l = append(l, laid(id, m.is[id]))
	}
	for id := range m.gone {
		l = append(l, gone(id))
	}
	slices.SortFunc(l, func(a, b api.Change) int {
		if a.ID < b.ID {
			return -1
		}
		return 1
	})
	return l
}

func (m *model) take() uint64 {
	m.next++
	return m.next - 1
}

// at is how many keys of a node are below one.
func (p *part) at(k string) int {
	n := 0
	for _, other := range p.keys {
		if below(other, k) {
			n++
		}
	}
	return n
}

func (p *part) all() []string {
	if p == nil {
		return nil
	}
	var l []string
	for i, k := range p.keys {
		if p.kids != nil {
			l = append(l, p.kids[i].all()...)
		}
		l = append(l, k)
	}
	if p.kids != nil {
		l = append(l, p.kids[len(p.kids)-1].all()...)
	}
	return l
}

// deep is how deep it is.
func (p *part) deep() int {
	switch {
	case p == nil:
		return 0
	case p.kids == nil:
		return 1
	}
	return 1 + p.kids[0].deep()
}

// add puts a key that is not there.
func (m *model) add(k string) {
	if m.root == nil {
		m.root = &part{id: m.take()}
	}
	m.into(m.root, k)
	if len(m.root.keys) == 5 {
		right := m.cut(m.root)
		up := m.root.keys[2]
		m.root.keys = m.root.keys[:2]
		m.root = &part{id: m.take(), keys: []string{up}, kids: []*part{m.root, right}}
		m.lay(m.root)
	}
	m.did()
}

func (m *model) into(p *part, k string) {
	i := p.at(k)
	if p.kids == nil {
		p.keys = slices.Insert(p.keys, i, k)
		m.lay(p)
		return
	}
	kid := p.kids[i]
	m.into(kid, k)
	if len(kid.keys) == 5 {
		right := m.cut(kid)
		p.keys = slices.Insert(p.keys, i, kid.keys[2])
		p.kids = slices.Insert(p.kids, i+1, right)
		kid.keys = kid.keys[:2]
		m.lay(p)
	}
}

// cut takes what is right of the third key into a new node.
func (m *model) cut(p *part) *part {
	right := &part{id: m.take(), keys: slices.Clone(p.keys[3:])}
	if p.kids != nil {
		right.kids = slices.Clone(p.kids[3:])
		p.kids = p.kids[:3:3]
	}
	m.lay(p, right)
	return right
}

// drop takes a key away that is there.
func (m *model) drop(k string) {
	m.out(m.root, k)
	if len(m.root.keys) == 0 {
		if m.root.kids == nil {
			m.root = nil
		} else {
			m.root = m.root.kids[0]
		}
	}
	m.did()
}

func (m *model) out(p *part, k string) {
	i := p.at(k)
	if p.kids == nil {
		p.keys = slices.Delete(p.keys, i, i+1)
		m.lay(p)
		return
	}
	if i < len(p.keys) && p.keys[i] == k {
		l := p.kids[i].all()
		k = l[len(l)-1]
		p.keys[i] = k
		m.lay(p)
	}
	m.out(p.kids[i], k)
	if len(p.kids[i].keys) < 2 {
		m.even(p, i)
	}
}

// even evens out the kid at a place.
func (m *model) even(p *part, i int) {
	if i > 0 {
		i--
	}
	left, right := p.kids[i], p.kids[i+1]
	m.lay(p, left, right)
	l := append(append(slices.Clone(left.keys), p.keys[i]), right.keys...)
	below := append(slices.Clone(left.kids), right.kids...)
	if len(l) <= 4 {
		left.keys, left.kids = l, below
		p.keys = slices.Delete(p.keys, i, i+1)
		p.kids = slices.Delete(p.kids, i+1, i+2)
		return
	}
	n := len(l) / 2
	left.keys, p.keys[i], right.keys = slices.Clone(l[:n]), l[n], slices.Clone(l[n+1:])
	if below != nil {
		left.kids, right.kids = slices.Clone(below[:n+1]), slices.Clone(below[n+1:])
	}
}

// played is a tree that is played with, and what it must be.
type played struct {
	x    *tree.Tree
	m    *model
	over records
}

func play(next uint64) *played { return &played{x: tree.New(nil, 0, next), m: newModel(next)} }

// add and drop hold what is answered, and what becomes of the nodes.
func (p *played) add(t *testing.T, k string) {
	t.Helper()
	_, there := slices.BinarySearch(p.m.root.all(), k)
	if !there {
		p.m.add(k)
	}
	if ok, e := p.x.Add(k); ok == there || e != api.OK {
		t.Errorf("Add(%q): %t, %d", k, ok, e)
	}
	p.holds(t)
}

func (p *played) drop(t *testing.T, k string) {
	t.Helper()
	_, there := slices.BinarySearch(p.m.root.all(), k)
	if there {
		p.m.drop(k)
	}
	if ok := p.x.Drop(k); ok != there {
		t.Errorf("Drop(%q): %t", k, ok)
	}
	p.holds(t)
}

func (p *played) holds(t *testing.T) {
	t.Helper()
	root := uint64(0)
	if p.m.root != nil {
		root = p.m.root.id
	}
	stands(t, p.x, root, p.m.next)
	changed(t, p.x, p.m.changes()...)
	sound(t, p.x, p.m.root.deep())
	if t.Failed() {
		t.FailNow()
	}
}

// has holds all keys.
func (p *played) has(t *testing.T) {
	t.Helper()
	has(t, p.x, p.m.root.all())
	if t.Failed() {
		t.FailNow()
	}
}

// anew begins a tree over the records that were laid.
func (p *played) anew(t *testing.T) {
	t.Helper()
	p.over = p.over.with(p.x.Changes())
	if !maps.Equal(p.over, p.m.is) {
		t.Fatalf("records %v, must be %v", p.over, p.m.is)
	}
	p.x = tree.New(p.over.get, p.x.Root(), p.x.Next())
	p.m.anew()
	p.holds(t)
}

// TestOrders: seven keys that come and go in all orders.
func TestOrders(t *testing.T) {
	all := each("abcdefg")
	for _, l := range orders(all) {
		p := play(1)
		for _, k := range l {
			p.add(t, k)
		}
		p.has(t)
		p = play(1)
		for _, k := range all {
			p.add(t, k)
		}
		p.anew(t)
		for _, k := range l {
			p.drop(t, k)
		}
		p.has(t)
	}
}

// someKeys has keys of one kind: many that are alike, some of all lengths, or letters alone.
func someKeys(r *rand.Rand, n int) []string {
	kind, l := r.Intn(4), []string{}
	for range n {
		b := make([]byte, []int{1, 2, 8, 90}[kind])
		for i := range b {
			b[i] = byte(r.Intn(256))
			if kind == 3 && i < 88 {
				b[i] = 0
			}
		}
		if kind == 2 {
			b = b[:r.Intn(9)]
			for i := range b {
				b[i] %= 2
			}
		}
		l = append(l, string(b))
	}
	return l
}

// TestModel: whatever keys come and go, by fixed seeds: answers, numbers and changes are those that the chapter tells, at each step.
func TestModel(t *testing.T) {
	for seed := range 300 {
		r := rand.New(rand.NewSource(int64(seed)))
		l := someKeys(r, 5+r.Intn(60))
		p := play(uint64(r.Intn(3)*1000) + 1)
		for range 250 {
			k := l[r.Intn(len(l))]
			switch grows := r.Intn(9); {
			case grows < 3+seed%3:
				p.add(t, k)
			case grows < 8:
				p.drop(t, k)
			case r.Intn(3) == 0:
				p.anew(t)
			default:
				p.has(t)
			}
		}
		for _, k := range l {
			p.drop(t, k)
		}
		p.anew(t)
		if len(p.over) != 0 {
			t.Fatalf("seed %d: %d records are left", seed, len(p.over))
		}
	}
}

// TestMany: trees of five depths and more that grow and shrink, by fixed seeds.
func TestMany(t *testing.T) {
	for seed := range 6 {
		r := rand.New(rand.NewSource(int64(seed)))
		var l []string
		for i := range 900 {
			l = append(l, string([]byte{byte(i >> 8), byte(i)}))
		}
		if seed > 1 {
			r.Shuffle(len(l), func(i, k int) { l[i], l[k] = l[k], l[i] })
		}
		p := play(1)
		for i, k := range l {
			p.add(t, k)
			if i%100 == 99 {
				p.anew(t)
			}
		}
		if p.m.root.deep() < 5 {
			t.Fatalf("seed %d: %d deep", seed, p.m.root.deep())
		}
		p.has(t)
		if seed%2 == 1 {
			r.Shuffle(len(l), func(i, k int) { l[i], l[k] = l[k], l[i] })
		}
		for i, k := range l {
			p.drop(t, k)
			if i%50 == 49 {
				p.anew(t)
			}
		}
		p.has(t)
	}
}
