package rec_test

import (
	"maps"
	"math"
	"slices"
	"strings"
	"testing"

	"offshoot/api"
	"offshoot/dev"
	"offshoot/rec"
)

var noughts = strings.Repeat("\x00", 128)

// text is n bytes of which no two side by side are the same and none is a nought; each k has others.
func text(k, n int) string {
	b := make([]byte, n)
	for i := range b {
		b[i] = byte(1 + (k*41+i*7)%251)
	}
	return string(b)
}

// bytesOf is told here once more, so that no fault of the program's own hides in it: n's lowest bytes, the highest first.
func bytesOf(n uint64, count int) string {
	b := make([]byte, count)
	for i := count - 1; i >= 0; i-- {
		b[i] = byte(n % 256)
		n /= 256
	}
	return string(b)
}

func eight(n uint64) string { return bytesOf(n, 8) }

func two(n int) string { return bytesOf(uint64(n), 2) }

func put(id uint64, s string) api.Change { return api.Change{ID: id, S: s} }

func gone(id uint64) api.Change { return api.Change{ID: id, Gone: true} }

// puts has records from one number on, each of so many bytes.
func puts(id uint64, sizes ...int) []api.Change {
	var l []api.Change
	for i, n := range sizes {
		l = append(l, put(id+uint64(i), text(int(id)+i, n)))
	}
	return l
}

// batch is a batch's bytes as the chapter tells them.
func batch(l []api.Change) string {
	var b strings.Builder
	b.WriteString(two(len(l)))
	for _, c := range l {
		b.WriteString(eight(c.ID))
		if c.Gone {
			b.WriteString("\xff\xff")
		} else {
			b.WriteString(two(len(c.S)) + c.S)
		}
	}
	return b.String()
}

// pageOf is a page's bytes as its chapter tells them.
func pageOf(l []api.Body) string {
	head, tail := two(len(l)), ""
	for _, b := range l {
		tail = b.S + tail
		head += eight(b.ID) + two(512-len(tail)) + two(len(b.S))
	}
	return head + strings.Repeat("\x00", 512-len(head)-len(tail)) + tail
}

// pagesOf is records in pages, each in the first one that has room for it.
func pagesOf(all map[uint64]string) string {
	var pages [][]api.Body
	var free []int
	for _, id := range slices.Sorted(maps.Keys(all)) {
		need := 12 + len(all[id])
		at := slices.IndexFunc(free, func(n int) bool { return n >= need })
		if at < 0 {
			at = len(free)
			pages, free = append(pages, nil), append(free, 510)
		}
		pages[at] = append(pages[at], api.Body{ID: id, S: all[id]})
		free[at] -= need
	}
	var b strings.Builder
	for _, l := range pages {
		b.WriteString(pageOf(l))
	}
	return b.String()
}

// sectors is an entry of a log as its chapter tells it.
func sectors(n uint64, s string) []string {
	size := eight(uint64(len(s)))
	s += noughts
	l := []string{eight(n) + size + s[:104] + eight(n)}
	for at := 104; at+128 < len(s); at += 128 {
		l = append(l, s[at:at+128])
	}
	return l
}

// model is a store and its device as the chapter tells them.
type model struct {
	n, part int
	all     map[uint64]string
	turn    uint64
	next    uint64 // the next entry's number
	at      int    // and its place
	l       []string
}

func newModel(n int) *model {
	m := &model{n: n, part: n * 2 / 5, all: map[uint64]string{}, next: 1, l: slices.Repeat([]string{noughts}, n)}
	m.at = 2 * m.part
	return m
}

func (m *model) copy() *model {
	c := *m
	c.all, c.l = maps.Clone(m.all), slices.Clone(m.l)
	return &c
}

// may is the error that needs no device to be told.
func may(l []api.Change) api.Errno {
	if len(l) > 3000 {
		return api.ErrMost
	}
	for _, c := range l {
		switch {
		case c.Gone && c.S != "":
			return api.ErrUse
		case len(c.S) > 498:
			return api.ErrMost
		}
	}
	return api.OK
}

func apply(all map[uint64]string, l []api.Change) {
	for _, c := range l {
		if c.Gone {
			delete(all, c.ID)
		} else {
			all[c.ID] = c.S
		}
	}
}

// lay is an entry in its sectors, with noughts behind it, if the log goes on there.
func (m *model) lay(at, end int, l []string) {
	copy(m.l[at:], l)
	if at+len(l) < end {
		m.l[at+len(l)] = noughts
	}
}

// commit does what the chapter tells, and tells how many steps it takes.
func (m *model) commit(l []api.Change) (int, api.Errno) {
	if e := may(l); e != api.OK {
		return 0, e
	}
	at, end, entry := m.at, m.n, sectors(m.next, batch(l))
	all := maps.Clone(m.all)
	apply(all, l)
	if at+len(entry) <= end && m.next != 0 {
		m.at, m.next = at+len(entry), m.next+1
	} else {
		if m.next == 0 || m.next == math.MaxUint64 || m.turn == math.MaxUint64 {
			return 0, api.ErrFull // there is no number any more
		}
		at = 0
		if m.turn%2 == 1 {
			at = m.part
		}
		end, entry = at+m.part, sectors(m.turn+1, eight(m.next+1)+pagesOf(all))
		if at+len(entry) > end {
			return 0, api.ErrFull
		}
		m.turn, m.next, m.at = m.turn+1, m.next+1, 2*m.part // what begins the log is one more than what is next
	}
	m.all = all
	m.lay(at, end, entry)
	if at+len(entry) < end {
		return len(entry) + 3, api.OK
	}
	return len(entry) + 2, api.OK
}

func device(t *testing.T, n int) *dev.Dev {
	t.Helper()
	d, e := dev.New(n)
	if e != api.OK {
		t.Fatal(e)
	}
	return d
}

// lay writes a sector for sure.
func lay(t *testing.T, d *dev.Dev, at int, s string) {
	t.Helper()
	if e := d.Write(at, s); e != api.OK {
		t.Fatalf("Write(%d): %d", at, e)
	}
	if e := d.Flush(); e != api.OK {
		t.Fatalf("Flush: %d", e)
	}
}

// of is a device that has such sectors.
func of(t *testing.T, l []string) *dev.Dev {
	t.Helper()
	d := device(t, len(l))
	for at, s := range l {
		lay(t, d, at, s)
	}
	return d
}

// fresh is a new device, a store on it, and what they are.
func fresh(t *testing.T, n int) (*dev.Dev, *rec.Store, *model) {
	t.Helper()
	d, m := device(t, n), newModel(n)
	return d, opens(t, d, m), m
}

// opens holds that a store stands up as the model is, and nothing is written.
func opens(t *testing.T, d *dev.Dev, m *model) *rec.Store {
	t.Helper()
	steps := d.Steps()
	s, e := rec.Open(d)
	if s == nil || e != api.OK {
		t.Fatalf("Open: %d", e)
	}
	is(t, s, m.all, m.turn)
	if d.Steps() != steps {
		t.Errorf("Open took %d steps", d.Steps()-steps)
	}
	return s
}

// is holds a store's records and turn.
func is(t *testing.T, s *rec.Store, all map[uint64]string, turn uint64) {
	t.Helper()
	if n := s.Round(); n != turn {
		t.Errorf("turn %d, must be %d", n, turn)
	}
	ids := slices.Sorted(maps.Keys(all))
	if l := s.IDs(); !slices.Equal(l, ids) {
		t.Errorf("numbers %d, must be %d", l, ids)
	}
	has(t, s.Get, all)
	has(t, s.Snap(), all)
}

// has holds that a getter has these records, and none beside them.
func has(t *testing.T, get func(uint64) (string, bool), all map[uint64]string) {
	t.Helper()
	for id, want := range all {
		if s, ok := get(id); s != want || !ok {
			t.Errorf("record %d: %q, %t, must be %q", id, s, ok, want)
		}
	}
	for id := range all {
		for _, id := range []uint64{id - 1, id + 1, 0, math.MaxUint64} {
			if _, ok := all[id]; !ok {
				hasNot(t, get, id)
			}
		}
	}
	if len(all) == 0 {
		hasNot(t, get, 1)
	}
}

func hasNot(t *testing.T, get func(uint64) (string, bool), id uint64) {
	t.Helper()
	if s, ok := get(id); s != "" || ok {
		t.Errorf("record %d: %q, %t, must be none", id, s, ok)
	}
}

// stands holds that the device has the model's sectors, all sure.
func stands(t *testing.T, d *dev.Dev, m *model) {
	t.Helper()
	if d.Loose() != 0 {
		t.Errorf("%d sectors are loose", d.Loose())
	}
	for at, want := range m.l {
		if s, e := d.Read(at); s != want || e != api.OK {
			t.Errorf("sector %d is %q, must be %q", at, s, want)
		}
	}
}

// commits holds that changes are answered, and what is kept, as the model has it.
func commits(t *testing.T, d *dev.Dev, s *rec.Store, m *model, l []api.Change) api.Errno {
	t.Helper()
	steps := d.Steps()
	n, want := m.commit(l)
	if e := s.Commit(l); e != want {
		t.Fatalf("Commit of %d changes: %d, must be %d", len(l), e, want)
	}
	if d.Steps()-steps != n {
		t.Errorf("Commit took %d steps, must be %d", d.Steps()-steps, n)
	}
	is(t, s, m.all, m.turn)
	stands(t, d, m)
	if s.Dead() {
		t.Error("it stands still")
	}
	if t.Failed() {
		t.FailNow()
	}
	return want
}

// does holds that changes are done.
func does(t *testing.T, d *dev.Dev, s *rec.Store, m *model, l ...api.Change) {
	t.Helper()
	if e := commits(t, d, s, m, l); e != api.OK {
		t.Fatalf("Commit of %d changes: %d", len(l), e)
	}
}

// refuses holds that changes are not done, and nothing is changed.
func refuses(t *testing.T, d *dev.Dev, s *rec.Store, m *model, want api.Errno, l ...api.Change) {
	t.Helper()
	if e := commits(t, d, s, m, l); e != want {
		t.Fatalf("Commit of %d changes: %d, must be %d", len(l), e, want)
	}
}
