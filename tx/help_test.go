package tx_test

import (
	"fmt"
	"maps"
	"math"
	"slices"
	"strings"
	"testing"

	"offshoot/api"
	"offshoot/tx"
)

func laid(id uint64, s string) api.Change { return api.Change{ID: id, S: s} }

func gone(id uint64) api.Change { return api.Change{ID: id, Gone: true} }

// records are by their numbers.
type records map[uint64]string

func (r records) get(id uint64) (string, bool) {
	s, ok := r[id]
	return s, ok
}

// with is the records behind changes.
func (r records) with(l ...api.Change) records {
	n := records{}
	maps.Copy(n, r)
	for _, c := range l {
		if c.Gone {
			delete(n, c.ID)
		} else {
			n[c.ID] = c.S
		}
	}
	return n
}

// ends is numbers at the edges of those that may be; as int64 some of them are below 0.
func ends() []uint64 {
	return []uint64{0, 1, 2, 255, 256, 1<<32 - 1, 1 << 32, 1 << 60, 2 << 60, 3<<60 + 1, 1<<63 - 1, 1 << 63, 1<<63 + 1, math.MaxUint64 - 1, math.MaxUint64}
}

// bodies is bytes of all kinds, none among them, and more than a record may have that is kept.
func bodies() []string {
	return []string{"", "\x00", "a", "b", "aa", "a\x00", "\xff\xfe", "naïve", strings.Repeat("x", api.MostBody), strings.Repeat("\x00", api.MostBody+1)}
}

// has holds a record's bytes.
func has(t *testing.T, x *tx.Tx, id uint64, want string) {
	t.Helper()
	if s, ok := x.Get(id); s != want || !ok {
		t.Errorf("Get(%d): %.20q, %t; must be %.20q", id, s, ok, want)
	}
}

// lacks holds that a record is not there.
func lacks(t *testing.T, x *tx.Tx, ids ...uint64) {
	t.Helper()
	for _, id := range ids {
		if s, ok := x.Get(id); s != "" || ok {
			t.Errorf("Get(%d): %.20q, %t; it is not there", id, s, ok)
		}
	}
}

// drops takes a record away that is there.
func drops(t *testing.T, x *tx.Tx, id uint64) {
	t.Helper()
	if !x.Drop(id) {
		t.Errorf("Drop(%d): false", id)
	}
}

// keeps takes records away that are not there.
func keeps(t *testing.T, x *tx.Tx, ids ...uint64) {
	t.Helper()
	for _, id := range ids {
		if x.Drop(id) {
			t.Errorf("Drop(%d): true", id)
		}
	}
}

// told is changes as a text that shows of which bytes they are.
func told(l []api.Change) string {
	var s strings.Builder
	for _, c := range l {
		fmt.Fprintf(&s, "{%d %.20q %t}", c.ID, c.S, c.Gone)
	}
	return "[" + s.String() + "]"
}

// changed holds a transaction's changes, all of them, in their order.
func changed(t *testing.T, x *tx.Tx, want ...api.Change) {
	t.Helper()
	if l := x.Changes(); !slices.Equal(l, want) {
		t.Errorf("changes %s, must be %s", told(l), told(want))
	}
}

// differ is what changes records to others, by their numbers: told here once more, record by record.
func differ(was, are records) []api.Change {
	var l []api.Change
	for _, id := range slices.Sorted(maps.Keys(are)) {
		if s, ok := was[id]; !ok || s != are[id] {
			l = append(l, laid(id, are[id]))
		}
	}
	for id := range was {
		if _, ok := are[id]; !ok {
			at := 0
			for at < len(l) && l[at].ID < id {
				at++
			}
			l = slices.Insert(l, at, gone(id))
		}
	}
	return l
}

// stands holds all of a transaction: its records, of those that were, that are and of some more numbers, and its changes.
func stands(t *testing.T, x *tx.Tx, was, are records) {
	t.Helper()
	ids := append(ends(), 3, 4, 5, 6, 7)
	ids = append(ids, slices.Collect(maps.Keys(was))...)
	ids = append(ids, slices.Collect(maps.Keys(are))...)
	for _, id := range ids {
		if s, ok := are[id]; ok {
			has(t, x, id, s)
		} else {
			lacks(t, x, id)
		}
	}
	changed(t, x, differ(was, are)...)
}
