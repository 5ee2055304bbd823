package page_test

import (
	"math"
	"slices"
	"strings"
	"testing"

	"offshoot/api"
	"offshoot/page"
)

// text is n bytes of which no two side by side are the same and none is a nought; each k has others.
func text(k, n int) string {
	b := make([]byte, n)
	for i := range b {
		b[i] = byte(1 + (k*41+i*7)%251)
	}
	return string(b)
}

func noughts(n int) string { return strings.Repeat("\x00", n) }

// ends has numbers at the ends of uint64 and where a number's bytes or its sign go over, by their order.
func ends() []uint64 {
	return []uint64{0, 1, 2, 255, 256, math.MaxUint32, math.MaxUint32 + 1, math.MaxInt64 - 1, math.MaxInt64, 1 << 63, 1<<63 + 1, math.MaxUint64 - 1, math.MaxUint64}
}

// wide is a number's last n bytes, told here once more, so that no fault of the program's own hides in it.
func wide(v uint64, n int) string {
	b := make([]byte, n)
	for i := n - 1; i >= 0; i-- {
		b[i] = byte(v % 256)
		v /= 256
	}
	return string(b)
}

// slot is a slot with whatever numbers.
func slot(id uint64, begin, size int) string {
	return wide(id, 8) + wide(uint64(begin), 2) + wide(uint64(size), 2)
}

// laid is a page with whatever count, slots and last bytes.
func laid(n int, slots, bodies string) string {
	s := wide(uint64(n), 2) + slots
	return s + noughts(512-len(s)-len(bodies)) + bodies
}

// form is a page's bytes as the chapter tells them; the records come by their numbers.
func form(l ...api.Body) string {
	slots, bodies := "", ""
	for _, b := range l {
		bodies = b.S + bodies
		slots += slot(b.ID, 512-len(bodies), len(b.S))
	}
	return laid(len(l), slots, bodies)
}

// left is what such records leave of a page.
func left(l ...api.Body) int {
	n := 512 - 2
	for _, b := range l {
		n -= 12 + len(b.S)
	}
	return n
}

// made is a page of records, put in the order in which they come.
func made(t *testing.T, l ...api.Body) *page.Page {
	t.Helper()
	p := page.New()
	for _, b := range l {
		put(t, p, b.ID, b.S)
	}
	return p
}

func put(t *testing.T, p *page.Page, id uint64, s string) {
	t.Helper()
	if !p.Put(id, s) {
		t.Fatalf("Put(%d) of %d bytes: false, and %d are left", id, len(s), p.Free())
	}
}

// is holds that a page has these records and no other, in all that can be asked of it.
func is(t *testing.T, p *page.Page, l ...api.Body) {
	t.Helper()
	if n := p.Free(); n != left(l...) {
		t.Errorf("%d bytes are left, must be %d", n, left(l...))
	}
	if got := p.All(); !slices.Equal(got, l) {
		t.Errorf("All: %v, must be %v", got, l)
	}
	if s := p.Encode(); s != form(l...) {
		t.Errorf("Encode: %q, must be %q", s, form(l...))
	}
	there := map[uint64]bool{}
	for _, b := range l {
		there[b.ID] = true
		if s, ok := p.Get(b.ID); s != b.S || !ok {
			t.Errorf("Get(%d): %q, %v; must be %q", b.ID, s, ok, b.S)
		}
	}
	for _, b := range l {
		lacks(t, p, there, b.ID-1)
		lacks(t, p, there, b.ID+1)
	}
	for _, id := range ends() {
		lacks(t, p, there, id)
	}
}

// lacks holds that a record whose number is none of these isn't told.
func lacks(t *testing.T, p *page.Page, there map[uint64]bool, id uint64) {
	t.Helper()
	if there[id] {
		return
	}
	if s, ok := p.Get(id); s != "" || ok {
		t.Errorf("Get(%d): %q, %v; it isn't there", id, s, ok)
	}
}

// refuses holds that a record has no room, and nothing is changed.
func refuses(t *testing.T, p *page.Page, id uint64, s string) {
	t.Helper()
	was := p.All()
	if p.Put(id, s) {
		t.Errorf("Put(%d) of %d bytes: true", id, len(s))
	}
	is(t, p, was...)
}

// reads holds that bytes are those of a page with these records.
func reads(t *testing.T, s string, l ...api.Body) *page.Page {
	t.Helper()
	p, e := page.Decode(s)
	if p == nil || e != api.OK {
		t.Fatalf("Decode(%q): %v, %d", s, p, e)
	}
	is(t, p, l...)
	return p
}

// fails holds that bytes are no page.
func fails(t *testing.T, s string, want api.Errno) {
	t.Helper()
	if p, e := page.Decode(s); p != nil || e != want {
		t.Errorf("Decode(%q): %v, %d; must be %d", s, p, e, want)
	}
}
