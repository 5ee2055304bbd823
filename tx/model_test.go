package tx_test

import (
	"maps"
	"math/rand"
	"slices"
	"testing"

	"offshoot/api"
	"offshoot/dev"
	"offshoot/rec"
	"offshoot/tx"
)

// TestAllOrders: of one record, whatever it was, all ways to change it in up to five steps.
func TestAllOrders(t *testing.T) {
	steps := []api.Change{gone(7), laid(7, ""), laid(7, "a"), laid(7, "b")}
	for _, was := range []records{nil, {7: ""}, {7: "a"}, {7: "c"}} {
		var try func(x *tx.Tx, are records, left int)
		try = func(x *tx.Tx, are records, left int) {
			if s, ok := are[7]; ok {
				has(t, x, 7, s)
			} else {
				lacks(t, x, 7)
			}
			changed(t, x, differ(was, are)...)
			if left == 0 || t.Failed() {
				return
			}
			for _, c := range steps {
				y := x.Copy()
				if !c.Gone {
					y.Put(c.ID, c.S)
				} else if _, ok := are[7]; y.Drop(7) != ok {
					t.Errorf("Drop: %t", !ok)
				}
				try(y, are.with(c), left-1)
			}
		}
		try(tx.New(was.get), was, 5)
	}
}

// one is a transaction, and the records that it must have.
type one struct {
	x   *tx.Tx
	are records
}

// changesOf is a few changes of any kind, of those numbers' records.
func changesOf(r *rand.Rand, ids []uint64) []api.Change {
	var l []api.Change
	for range r.Intn(6) {
		c := api.Change{ID: ids[r.Intn(len(ids))], S: bodies()[r.Intn(8)]}
		c.Gone = r.Intn(3) == 0
		l = append(l, c)
	}
	return l
}

// TestModel: some transactions that come of one another, each with its own changes.
func TestModel(t *testing.T) {
	for seed := range int64(150) {
		r := rand.New(rand.NewSource(seed))
		ids, was := append(ends(), 3, 4, 5, 6, 7), records{}
		for _, id := range ids {
			if r.Intn(2) == 0 {
				was[id] = bodies()[r.Intn(8)]
			}
		}
		kept := maps.Clone(was)
		l := []*one{{tx.New(was.get), was.with()}}
		for i := range 120 {
			o, id := l[r.Intn(len(l))], ids[r.Intn(len(ids))]
			switch r.Intn(6) {
			case 0:
				_, ok := o.are[id]
				if o.x.Drop(id) != ok {
					t.Fatalf("seed %d, %d: Drop(%d): %t", seed, i, id, !ok)
				}
				o.are = o.are.with(gone(id))
			case 1:
				c := changesOf(r, ids)
				o.x.Apply(c)
				o.are = o.are.with(c...)
			case 2:
				n := &one{o.x.Copy(), o.are.with()}
				if len(l) < 4 {
					l = append(l, n)
				} else {
					l[r.Intn(len(l))] = n
				}
			default:
				s := bodies()[r.Intn(8)]
				o.x.Put(id, s)
				o.are = o.are.with(laid(id, s))
			}
			for _, o := range l {
				stands(t, o.x, was, o.are)
			}
			if t.Failed() {
				t.Fatalf("seed %d, %d", seed, i)
			}
		}
		if !maps.Equal(was, kept) {
			t.Errorf("seed %d: the records themselves were changed", seed)
		}
	}
}

// TestMany: more changes than a batch may have.
func TestMany(t *testing.T) {
	was := records{}
	for id := range uint64(4000) {
		was[id*3] = string(rune(id))
	}
	x, are := tx.New(was.get), was.with()
	for i := range uint64(12000) {
		id := i * 7 % 12000
		switch id % 4 {
		case 0:
			if _, ok := are[id]; x.Drop(id) != ok {
				t.Fatalf("Drop(%d): %t", id, !ok)
			}
			delete(are, id)
		case 1:
			x.Put(id, "is")
			are[id] = "is"
		case 2:
			x.Put(id, string(rune(id/3)))
			are[id] = string(rune(id / 3))
		}
	}
	stands(t, x, was, are)
}

// TestKept: a transaction's changes, over a store's records as they were, are what the store commits.
func TestKept(t *testing.T) {
	d, _ := dev.New(400)
	s, e := rec.Open(d)
	if e != api.OK {
		t.Fatal(e)
	}
	are := records{}
	for seed := range int64(40) {
		r := rand.New(rand.NewSource(seed))
		x := tx.New(s.Snap())
		was := are.with()
		for range 3 {
			l := changesOf(r, []uint64{0, 1, 2, 1 << 60, 3<<60 + 1, 1<<64 - 1})
			x.Apply(l)
			are = are.with(l...)
		}
		if e := s.Commit(x.Changes()); e != api.OK {
			t.Fatalf("seed %d: %d", seed, e)
		}
		// It has the records that were, whatever is committed.
		stands(t, x, was, are)
		if got, want := s.IDs(), slices.Sorted(maps.Keys(are)); !slices.Equal(got, want) {
			t.Fatalf("seed %d: records %d, must be %d", seed, got, want)
		}
		for id, b := range are {
			if got, ok := s.Get(id); got != b || !ok {
				t.Fatalf("seed %d: record %d is %q, %t", seed, id, got, ok)
			}
		}
	}
}
