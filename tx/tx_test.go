package tx_test

import (
	"slices"
	"strings"
	"testing"
	"unsafe"

	"offshoot/api"
	"offshoot/tx"
)

func TestNoRecords(t *testing.T) {
	for _, get := range []func(uint64) (string, bool){nil, records{}.get} {
		x := tx.New(get)
		if x == nil {
			t.Fatal("New is nil")
		}
		stands(t, x, nil, nil)
		keeps(t, x, ends()...)
		stands(t, x, nil, nil)
		for i, id := range ends() {
			x.Put(id, bodies()[i%len(bodies())])
		}
		for i, id := range ends() {
			has(t, x, id, bodies()[i%len(bodies())])
			drops(t, x, id)
			lacks(t, x, id)
			keeps(t, x, id)
		}
		stands(t, x, nil, nil)
	}
}

// TestRecords: without changes all is as it was, whatever numbers and bytes the records have.
func TestRecords(t *testing.T) {
	was := records{}
	for i, id := range ends() {
		if i%3 != 0 {
			was[id] = bodies()[i%len(bodies())]
		}
	}
	x := tx.New(was.get)
	stands(t, x, was, was)
	stands(t, x, was, was)
}

// TestBeside: bytes beside false are no record's.
func TestBeside(t *testing.T) {
	x := tx.New(func(uint64) (string, bool) { return "bytes", false })
	stands(t, x, nil, nil)
	keeps(t, x, ends()...)
	x.Put(7, "bytes")
	stands(t, x, nil, records{7: "bytes"})
	drops(t, x, 7)
	stands(t, x, nil, nil)
	x.Apply([]api.Change{gone(7), laid(8, ""), gone(9)})
	stands(t, x, nil, records{8: ""})
}

func TestPut(t *testing.T) {
	for _, id := range ends() {
		for _, old := range bodies() {
			for _, s := range bodies() {
				was := records{id: old}
				x := tx.New(was.get)
				x.Put(id, s)
				has(t, x, id, s)
				if s == old {
					changed(t, x)
				} else {
					changed(t, x, laid(id, s))
				}
			}
			x := tx.New(nil)
			x.Put(id, old)
			has(t, x, id, old)
			changed(t, x, laid(id, old))
		}
	}
}

// TestLong: a record may be of any length.
func TestLong(t *testing.T) {
	long := strings.Repeat("x", 1<<20)
	was := records{1: long}
	x := tx.New(was.get)
	x.Put(2, long)
	x.Put(1, long+"x")
	stands(t, x, was, records{1: long + "x", 2: long})
	x.Put(1, strings.Clone(long))
	stands(t, x, was, records{1: long, 2: long})
	x.Put(1, long[1:]+"y")
	stands(t, x, was, records{1: long[1:] + "y", 2: long})
}

// TestEmpty: a record without bytes is there.
func TestEmpty(t *testing.T) {
	was := records{1: "", 2: "two"}
	x := tx.New(was.get)
	x.Put(2, "")
	x.Put(3, "")
	stands(t, x, was, records{1: "", 2: "", 3: ""})
	for id := range uint64(3) {
		drops(t, x, id+1)
	}
	stands(t, x, was, nil)
	x.Put(1, "")
	stands(t, x, was, records{1: ""})
}

func TestDrop(t *testing.T) {
	was := records{1: "one", 2: "two", 3: "three"}
	x := tx.New(was.get)
	x.Put(2, "deux")
	x.Put(4, "four")
	keeps(t, x, 0, 5, 1<<63+1)
	stands(t, x, was, records{1: "one", 2: "deux", 3: "three", 4: "four"})
	drops(t, x, 1)
	drops(t, x, 2)
	drops(t, x, 4)
	stands(t, x, was, records{3: "three"})
	keeps(t, x, 1, 2, 4)
	stands(t, x, was, records{3: "three"})
	x.Put(1, "un")
	x.Put(4, "quatre")
	stands(t, x, was, records{1: "un", 3: "three", 4: "quatre"})
	drops(t, x, 1)
	drops(t, x, 4)
	stands(t, x, was, records{3: "three"})
}

// TestBack: what is again as it was is no change.
func TestBack(t *testing.T) {
	was := records{1: "one", 2: "two"}
	x := tx.New(was.get)
	x.Put(1, "un")
	x.Put(1, "one")
	drops(t, x, 2)
	x.Put(2, "two")
	x.Put(3, "three")
	drops(t, x, 3)
	stands(t, x, was, was)
	x.Put(2, "deux")
	drops(t, x, 2)
	x.Put(2, "two")
	stands(t, x, was, was)
}

// TestOrder: changes stand by their numbers, of which none is below 0, in whatever order they were made.
func TestOrder(t *testing.T) {
	was := records{}
	for i, id := range ends() {
		if i%2 == 0 {
			was[id] = "was"
		}
	}
	var want []api.Change
	for i, id := range ends() {
		if i%4 == 0 {
			want = append(want, gone(id))
		} else {
			want = append(want, laid(id, "is"))
		}
	}
	for n := range want {
		for _, step := range []int{1, 2, 4, 7, 8, 11, 13, 14} {
			x := tx.New(was.get)
			for i := range want {
				c := want[(n+i*step)%len(want)]
				if c.Gone {
					drops(t, x, c.ID)
				} else {
					x.Put(c.ID, c.S)
				}
			}
			changed(t, x, want...)
		}
	}
}

func TestApply(t *testing.T) {
	was := records{1: "one", 2: "two", 3: "three"}
	for _, c := range []struct {
		l   []api.Change
		are records
	}{
		{nil, was},
		{[]api.Change{}, was},
		{[]api.Change{{}}, was.with(laid(0, ""))},
		{[]api.Change{laid(4, "four"), gone(1), laid(2, "deux")}, records{2: "deux", 3: "three", 4: "four"}},
		{[]api.Change{gone(4), gone(0), gone(1 << 63)}, was},
		{[]api.Change{laid(1, "one"), laid(2, "two")}, was},
		{[]api.Change{laid(1, "a"), laid(1, "b"), laid(1, "c")}, was.with(laid(1, "c"))},
		{[]api.Change{laid(1, "a"), gone(1)}, was.with(gone(1))},
		{[]api.Change{gone(1), laid(1, "a")}, was.with(laid(1, "a"))},
		{[]api.Change{gone(1), laid(1, "one")}, was},
		{[]api.Change{laid(7, "a"), gone(7)}, was},
		{[]api.Change{gone(7), laid(7, "a"), gone(7), laid(7, "b")}, was.with(laid(7, "b"))},
		{[]api.Change{{ID: 1, S: "bytes", Gone: true}, {ID: 7, S: "bytes", Gone: true}}, was.with(gone(1))},
		{[]api.Change{laid(1<<64-1, "last"), laid(0, "first")}, was.with(laid(1<<64-1, "last"), laid(0, "first"))},
	} {
		x, l := tx.New(was.get), slices.Clone(c.l)
		x.Apply(l)
		stands(t, x, was, c.are)
		if !slices.Equal(l, c.l) {
			t.Errorf("%s was changed to %s", told(c.l), told(l))
		}
	}
}

// TestApplyOver: changes are done over those that were made ahead of them.
func TestApplyOver(t *testing.T) {
	was := records{1: "one", 2: "two", 3: "three"}
	x := tx.New(was.get)
	drops(t, x, 1)
	x.Put(2, "deux")
	x.Put(4, "four")
	x.Apply([]api.Change{laid(1, "un"), gone(2), gone(4), gone(5)})
	stands(t, x, was, records{1: "un", 3: "three"})
	x.Apply([]api.Change{laid(1, "one"), laid(2, "two")})
	stands(t, x, was, was)
}

// TestApplyChanges: one's changes, applied to another one over the same records, make it the same.
func TestApplyChanges(t *testing.T) {
	was := records{1: "one", 2: "two", 3: "three"}
	x, y := tx.New(was.get), tx.New(was.get)
	x.Put(1, "un")
	x.Put(9, "")
	drops(t, x, 3)
	y.Apply(x.Changes())
	stands(t, y, was, records{1: "un", 2: "two", 9: ""})
	y.Apply(y.Changes())
	stands(t, y, was, records{1: "un", 2: "two", 9: ""})
}

// TestCopy: what is changed in one of two is not changed in the other one, whichever was there first, and whether or not it had changes.
func TestCopy(t *testing.T) {
	was := records{1: "one", 2: "two"}
	for _, first := range []bool{true, false} {
		x := tx.New(was.get)
		a := x.Copy()
		if first {
			x, a = a, x
		}
		x.Put(1, "un")
		x.Put(3, "three")
		stands(t, x, was, records{1: "un", 2: "two", 3: "three"})
		stands(t, a, was, was)

		b := x.Copy()
		if first {
			x, b = b, x
		}
		drops(t, x, 2)
		x.Put(1, "one")
		drops(t, x, 3)
		x.Put(4, "four")
		stands(t, x, was, records{1: "one", 4: "four"})
		stands(t, b, was, records{1: "un", 2: "two", 3: "three"})
		b.Put(3, "trois")
		b.Apply([]api.Change{gone(1)})
		stands(t, x, was, records{1: "one", 4: "four"})
		stands(t, b, was, records{2: "two", 3: "trois"})
		stands(t, a, was, was)
	}
}

func TestCopyOfNone(t *testing.T) {
	x := tx.New(nil).Copy()
	stands(t, x, nil, nil)
	x.Put(1, "one")
	stands(t, x, nil, records{1: "one"})
	stands(t, x.Copy().Copy(), nil, records{1: "one"})
}

// TestNil: a nil transaction has nothing, and takes nothing.
func TestNil(t *testing.T) {
	var x *tx.Tx
	for range 2 {
		stands(t, x, nil, nil)
		keeps(t, x, ends()...)
		if x.Copy() != nil {
			t.Error("a nil one's copy is not nil")
		}
		x.Put(0, "")
		x.Put(7, "seven")
		x.Apply(nil)
		x.Apply([]api.Change{laid(1, "one"), gone(1), laid(2, "two")})
	}
}

// TestZero: one that New didn't make is one over no records.
func TestZero(t *testing.T) {
	var x tx.Tx
	stands(t, &x, nil, nil)
	keeps(t, &x, ends()...)
	stands(t, x.Copy(), nil, nil)
	x.Put(7, "seven")
	stands(t, &x, nil, records{7: "seven"})
	drops(t, &x, 7)
	stands(t, &x, nil, nil)
	x.Apply([]api.Change{laid(1, "one"), gone(7)})
	stands(t, &x, nil, records{1: "one"})
}

// bytesOf is the bytes of a text, and a text that has them as its own: what is done to one is done to the other.
func bytesOf(s string) ([]byte, string) {
	b := []byte(s)
	return b, unsafe.String(&b[0], len(b))
}

func spoil(s string) { clear(unsafe.Slice(unsafe.StringData(s), len(s))) }

// TestOwn: neither what is put, nor records, nor what is answered shares bytes with the transaction.
func TestOwn(t *testing.T) {
	was := records{}
	mine, record := bytesOf("one")
	was[1] = record
	x := tx.New(was.get)
	s, _ := x.Get(1)
	spoil(s)
	has(t, x, 1, "one")
	s, _ = x.Get(1)
	clear(mine)
	if s != "one" {
		t.Errorf("%q is the records' own", s)
	}
	copy(mine, "one")

	b, s := bytesOf("two")
	x.Put(2, s)
	clear(b)
	has(t, x, 2, "two")

	b, s = bytesOf("three")
	l := []api.Change{laid(3, s), laid(4, "four")}
	x.Apply(l)
	clear(b)
	clear(l)
	stands(t, x, was, records{1: "one", 2: "two", 3: "three", 4: "four"})

	s, _ = x.Get(2)
	spoil(s)
	has(t, x, 2, "two")

	l = x.Changes()
	for i := range l {
		spoil(l[i].S)
		l[i] = gone(9)
	}
	stands(t, x, was, records{1: "one", 2: "two", 3: "three", 4: "four"})
}

// TestSameBytes: whether a record is as it was hangs on its bytes, not on where they lie.
func TestSameBytes(t *testing.T) {
	was := records{1: "one"}
	x := tx.New(was.get)
	_, s := bytesOf("one")
	x.Put(1, "two")
	x.Put(1, s)
	changed(t, x)
}

// TestAsked: records are asked of the getter in an order that hangs on the calls alone, and no others than those that were asked for.
func TestAsked(t *testing.T) {
	run := func() []uint64 {
		var asked []uint64
		x := tx.New(func(id uint64) (string, bool) {
			asked = append(asked, id)
			return "was", id%2 == 0
		})
		for id := range uint64(40) {
			x.Put(id*7%40, "is")
		}
		for id := range uint64(20) {
			x.Drop(id)
			x.Get(id + 10)
		}
		x.Copy().Apply(x.Changes())
		return asked
	}
	first := run()
	for _, id := range first {
		if id >= 40 {
			t.Errorf("%d was asked for", id)
		}
	}
	for range 20 {
		if l := run(); !slices.Equal(l, first) {
			t.Fatalf("asked %d, then %d", first, l)
		}
	}
}

// TestExample: Put and Drop of a new record.
func TestExample(t *testing.T) {
	x := tx.New(nil)
	x.Put(1, "new")
	drops(t, x, 1)
	changed(t, x)
}
