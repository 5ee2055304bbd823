package rec_test

import (
	"math"
	"slices"
	"strings"
	"testing"
	"unsafe"

	"offshoot/api"
	"offshoot/rec"
)

// batches has changes and their bytes, written out.
func batches() []struct {
	l []api.Change
	s string
} {
	long := text(3, 498)
	return []struct {
		l []api.Change
		s string
	}{
		{nil, "\x00\x00"},
		{[]api.Change{put(1, "")}, "\x00\x01" + "\x00\x00\x00\x00\x00\x00\x00\x01" + "\x00\x00"},
		{[]api.Change{gone(1)}, "\x00\x01" + "\x00\x00\x00\x00\x00\x00\x00\x01" + "\xff\xff"},
		{[]api.Change{put(0x0102030405060708, "abc")}, "\x00\x01" + "\x01\x02\x03\x04\x05\x06\x07\x08" + "\x00\x03abc"},
		{[]api.Change{put(0, long)}, "\x00\x01" + "\x00\x00\x00\x00\x00\x00\x00\x00" + "\x01\xf2" + long},
		{[]api.Change{put(0, text(4, 256))}, "\x00\x01" + "\x00\x00\x00\x00\x00\x00\x00\x00" + "\x01\x00" + text(4, 256)},
		{[]api.Change{gone(math.MaxUint64), put(math.MaxUint64, "\xff\xff"), put(7, "\x00"), gone(7)},
			"\x00\x04" + "\xff\xff\xff\xff\xff\xff\xff\xff" + "\xff\xff" + "\xff\xff\xff\xff\xff\xff\xff\xff" + "\x00\x02\xff\xff" +
				"\x00\x00\x00\x00\x00\x00\x00\x07" + "\x00\x01\x00" + "\x00\x00\x00\x00\x00\x00\x00\x07" + "\xff\xff"},
	}
}

func TestBatch(t *testing.T) {
	for _, c := range batches() {
		if s := rec.Batch(c.l); s != c.s {
			t.Errorf("Batch(%v): %q, must be %q", c.l, s, c.s)
		}
		reads(t, c.s, c.l)
	}
	if s := rec.Batch([]api.Change{}); s != "\x00\x00" {
		t.Errorf("Batch of an empty list: %q", s)
	}
}

// reads holds that bytes are those of such changes.
func reads(t *testing.T, s string, l []api.Change) {
	t.Helper()
	if got, e := rec.Unbatch(s); e != api.OK || !slices.Equal(got, l) {
		t.Errorf("Unbatch(%q): %v, %d; must be %v", s, got, e, l)
	}
}

func refusesBytes(t *testing.T, s string, want api.Errno) {
	t.Helper()
	if l, e := rec.Unbatch(s); len(l) != 0 || e != want {
		t.Errorf("Unbatch(%q): %v, %d; must be %d", s, l, e, want)
	}
}

// TestBatchOfMany: two bytes say how many changes there are, and all that they can say is read.
func TestBatchOfMany(t *testing.T) {
	for _, n := range []int{255, 256, 257, 3000, 3001, 65535} {
		var l []api.Change
		for i := range n {
			l = append(l, put(uint64(i)<<32, text(i, i%3)))
			if i%5 == 0 {
				l[i] = gone(uint64(i))
			}
		}
		s := rec.Batch(l)
		if s != batch(l) {
			t.Errorf("Batch of %d changes: other bytes", n)
		}
		if got, e := rec.Unbatch(s); e != api.OK || !slices.Equal(got, l) {
			t.Errorf("Unbatch of %d changes: %d, %d", n, len(got), e)
		}
	}
}

// TestBatchOfWrong: whatever changes come, Batch ends, and what goes has no bytes.
func TestBatchOfWrong(t *testing.T) {
	l := []api.Change{{ID: 5, S: "bytes", Gone: true}}
	if s := rec.Batch(l); s != "\x00\x01\x00\x00\x00\x00\x00\x00\x00\x05\xff\xff" {
		t.Errorf("Batch of one that goes with bytes: %q", s)
	}
	refusesBytes(t, rec.Batch(puts(1, 499)), api.ErrShape)
	refusesBytes(t, rec.Batch(puts(1, 65534)), api.ErrShape)
	rec.Batch(puts(1, 65535, 65536, 200000))
	rec.Batch(make([]api.Change, 70000))
}

// TestUnbatchCut: bytes that end anywhere ahead of their end are cut, with one more they have a tail.
func TestUnbatchCut(t *testing.T) {
	for _, c := range batches() {
		for n := range len(c.s) {
			refusesBytes(t, c.s[:n], api.ErrCut)
		}
		for _, more := range []string{"\x00", "\xff", c.s, strings.Repeat("\x00", 10)} {
			refusesBytes(t, c.s+more, api.ErrTail)
		}
	}
}

// TestUnbatchShape: a record that is too long, by all lengths that two bytes can tell but that of one that goes.
func TestUnbatchShape(t *testing.T) {
	for _, n := range []int{499, 500, 512, 0x01ff, 0x0200, 0x7fff, 0x8000, 0xff00, 0xfffe} {
		head := eight(9) + two(n)
		whole := head + text(1, n)
		for _, s := range []string{
			two(1) + whole,
			two(1) + whole + "tail",
			two(2) + whole,
			two(2) + eight(1) + "\xff\xff" + whole,
			two(3) + eight(1) + two(498) + text(1, 498) + whole + eight(1),
		} {
			refusesBytes(t, s, api.ErrShape)
		}
		// Of one that is cut, too, that is told which is named first.
		refusesBytes(t, two(1)+whole[:len(whole)-1], api.ErrCut)
		refusesBytes(t, two(1)+head, api.ErrCut)
	}
	reads(t, two(1)+eight(9)+two(498)+text(1, 498), []api.Change{put(9, text(1, 498))})
}

// TestUnbatchOrder: the first error is that of the change that stands first.
func TestUnbatchOrder(t *testing.T) {
	long := eight(1) + two(499) + text(1, 499)
	refusesBytes(t, two(2)+long+eight(2)[:3], api.ErrShape)
	refusesBytes(t, two(2)+eight(2)+two(3)+"a", api.ErrCut)
	refusesBytes(t, two(0)+long, api.ErrTail)
	refusesBytes(t, "", api.ErrCut)
	refusesBytes(t, "\x00", api.ErrCut)
	refusesBytes(t, "\xff\xff", api.ErrCut)
	refusesBytes(t, two(0xffff)+eight(1)+"\xff\xff", api.ErrCut)
}

// TestBatchOwn: what is answered shares no bytes with what was handed in.
func TestBatchOwn(t *testing.T) {
	b := []byte(batch([]api.Change{put(1, "first"), put(2, "second"), gone(3)}))
	l, e := rec.Unbatch(unsafe.String(&b[0], len(b)))
	if e != api.OK {
		t.Fatal(e)
	}
	for i := range b {
		b[i] = 'x'
	}
	if want := []api.Change{put(1, "first"), put(2, "second"), gone(3)}; !slices.Equal(l, want) {
		t.Errorf("behind a change of the bytes: %v", l)
	}
	b = []byte("bytes")
	s := rec.Batch([]api.Change{put(1, unsafe.String(&b[0], len(b)))})
	b[0] = 'x'
	if s != batch([]api.Change{put(1, "bytes")}) {
		t.Errorf("behind a change of a record: %q", s)
	}
}
