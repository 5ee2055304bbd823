package page_test

import (
	"math/rand"
	"slices"
	"testing"

	"offshoot/api"
	"offshoot/page"
)

// model is a page's records in no order at all, looked through one by one.
type model struct{ l []api.Body }

func (m *model) without(id uint64) []api.Body {
	var l []api.Body
	for _, b := range m.l {
		if b.ID != id {
			l = append(l, b)
		}
	}
	return l
}

func (m *model) put(id uint64, s string) bool {
	l := append(m.without(id), api.Body{ID: id, S: s})
	if left(l...) < 0 {
		return false
	}
	m.l = l
	return true
}

func (m *model) drop(id uint64) bool {
	l := m.without(id)
	ok := len(l) < len(m.l)
	m.l = l
	return ok
}

// all is the records by their numbers.
func (m *model) all() []api.Body {
	var l []api.Body
	for _, b := range m.l {
		at := len(l)
		for at > 0 && l[at-1].ID > b.ID {
			at--
		}
		l = slices.Insert(l, at, b)
	}
	return l
}

// length is one of many lengths, most of them small, as else a page would soon be full.
func length(r *rand.Rand) int {
	switch r.Intn(6) {
	case 0:
		return 0
	case 1:
		return r.Intn(520)
	}
	return r.Intn(30)
}

func TestModel(t *testing.T) {
	for seed := range int64(60) {
		r := rand.New(rand.NewSource(seed))
		p, m := page.New(), &model{}
		ids := append(ends(), 3, 4, 5, 6, 7, 1<<62, 1<<61, 1<<60)
		for i := range 300 {
			id := ids[r.Intn(len(ids))]
			switch r.Intn(8) {
			case 0, 1:
				if got, want := p.Drop(id), m.drop(id); got != want {
					t.Fatalf("seed %d, %d: Drop(%d): %v", seed, i, id, got)
				}
			case 2:
				var e api.Errno
				if p, e = page.Decode(p.Encode()); e != api.OK {
					t.Fatalf("seed %d, %d: %d", seed, i, e)
				}
			default:
				s := text(i, length(r))
				if got, want := p.Put(id, s), m.put(id, s); got != want {
					t.Fatalf("seed %d, %d: Put(%d) of %d bytes: %v", seed, i, id, len(s), got)
				}
			}
			is(t, p, m.all()...)
			if t.Failed() {
				t.Fatalf("seed %d, %d", seed, i)
			}
		}
	}
}

// TestModelBytes: slots that are nearly right.
func TestModelBytes(t *testing.T) {
	good := 0
	for seed := range int64(20000) {
		r := rand.New(rand.NewSource(seed))
		n, end, slots := r.Intn(5), 512, ""
		id := uint64(0)
		for range n {
			size := r.Intn(4)
			end -= size
			slots += slot(id+uint64(r.Intn(5)), end+r.Intn(12)/11, size+r.Intn(12)/11)
			id += 4
		}
		s := laid(n+r.Intn(12)/11, slots, text(int(seed), 512-end+r.Intn(12)/11))
		if _, ok := parse(s); ok {
			good++
		}
		agrees(t, s)
	}
	if good < 5000 || good > 15000 {
		t.Errorf("%d of these are pages", good)
	}
}
