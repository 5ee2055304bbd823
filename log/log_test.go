package log_test

import (
	"fmt"
	"math"
	"slices"
	"strings"
	"testing"

	"offshoot/api"
	"offshoot/dev"
	"offshoot/log"
)

func TestSectors(t *testing.T) {
	for n, w := range map[int]int{
		0: 1, 1: 1, 103: 1, 104: 1, 105: 2, 106: 2, 231: 2, 232: 2, 233: 3, 360: 3, 361: 4, 488: 4, 489: 5,
		104 + 128*1000: 1001, 105 + 128*1000: 1002, math.MaxInt32: 1<<24 + 1, 1<<31 - 24: 1 << 24,
		104 + (math.MaxInt-104)/128*128: 1 + (math.MaxInt-104)/128, math.MaxInt: 2 + (math.MaxInt-104)/128,
		-1: 0, -24: 0, -104: 0, -128: 0, -1000: 0, math.MinInt: 0, math.MinInt + 23: 0,
	} {
		if got := log.Sectors(n); got != w {
			t.Errorf("Sectors(%d): %d, must be %d", n, got, w)
		}
	}
	for n := range 2000 {
		if got := log.Sectors(n); got != len(sectors(1, text(1, n))) {
			t.Errorf("Sectors(%d): %d", n, got)
		}
	}
}

// TestOpenNone: where no entry is there are none, wherever the log stands.
func TestOpenNone(t *testing.T) {
	for _, d := range []*dev.Dev{device(t, slices.Repeat([]string{noughts}, 5)...), blank(t, 5)} {
		was := all(t, d)
		for from := range 6 {
			for to := from; to < 6; to++ {
				opens(t, d, from, to, 1)
				opens(t, d, from, to, math.MaxUint64)
			}
		}
		has(t, d, was)
	}
}

func TestOpenUse(t *testing.T) {
	d := device(t, sectors(1, "a")[0], sectors(2, "b")[0], noughts, noughts)
	short := device(t)
	bad := func(d *dev.Dev, from, to int, next uint64, want api.Errno) {
		t.Helper()
		if g, l, e := log.Open(d, from, to, next); g != nil || len(l) != 0 || e != want {
			t.Errorf("Open(%d, %d, %d): %v, %q, %d; must be %d", from, to, next, g, l, e, want)
		}
	}
	for range 2 {
		for _, at := range append(far(), 5, 6) {
			bad(d, at, 4, 1, api.ErrUse)
			bad(d, 0, at, 1, api.ErrUse)
			bad(d, at, at, 1, api.ErrUse)
			bad(nil, at, at, 1, api.ErrUse)
			bad(short, at, 0, 1, api.ErrUse)
			bad(short, 0, at, 1, api.ErrUse)
		}
		bad(d, 1, 0, 1, api.ErrUse)
		bad(d, 4, 3, 1, api.ErrUse)
		bad(short, 0, 1, 1, api.ErrUse)
		bad(short, 1, 1, 1, api.ErrUse)
		bad(d, 0, 4, 0, api.ErrUse)
		bad(d, 2, 2, 0, api.ErrUse)
		bad(nil, 0, 0, 1, api.ErrUse)
		bad(nil, 0, 4, 0, api.ErrUse)
		// The second time the device has no power: ErrUse is named first.
		d.Crash(0, 0)
		short.Crash(0, 0)
	}
	bad(d, 0, 4, 1, api.ErrOff)
	bad(d, 2, 2, 1, api.ErrOff)
	bad(d, 4, 4, 9, api.ErrOff)
	bad(short, 0, 0, 1, api.ErrOff)
	d.Up()
	short.Up()
	opens(t, d, 0, 4, 1, "a", "b")
	opens(t, d, 4, 4, 1)
	opens(t, short, 0, 0, 1)
}

// TestAdd: each entry stands as it is told, with noughts behind it, and no other sector is touched.
func TestAdd(t *testing.T) {
	for _, n := range sizes() {
		for _, next := range []uint64{1, 2, 255, 256, 1<<32 + 3, math.MaxUint64 - 1} {
			d := blank(t, 9)
			want, s := all(t, d), text(n, n)
			g := opens(t, d, 2, 8, next)
			steps := d.Steps()
			add(t, g, s)
			l := append(sectors(next, s), noughts)
			copy(want[2:], l)
			has(t, d, want)
			is(t, g, next+1, 6-len(l)+1)
			// Each sector is written once, and flushed twice in all.
			if d.Steps()-steps != len(l)+2 {
				t.Errorf("Add of %d bytes: %d steps", n, d.Steps()-steps)
			}
			opens(t, d, 2, 8, next, s)
			opens(t, d, 2, 8, next+1)
		}
	}
}

// TestAddMore: one stands behind the other, in a log that was opened once, and in one that is opened for each.
func TestAddMore(t *testing.T) {
	for _, again := range []bool{false, true} {
		d := blank(t, 60)
		want, at := all(t, d), 3
		var l []string
		g := opens(t, d, 3, 55, 7)
		for i, n := range sizes() {
			s := text(i, n)
			add(t, g, s)
			l = append(l, s)
			copy(want[at:], append(sectors(7+uint64(i), s), noughts))
			at += len(sectors(1, s))
			has(t, d, want)
			is(t, g, 8+uint64(i), 55-at)
			other := opens(t, d, 3, 55, 7, l...)
			if again {
				g = other
			}
		}
	}
}

// TestFull: an entry may fill the log to its last sector, and nothing is laid behind that; one that is greater is refused.
func TestFull(t *testing.T) {
	for room := 1; room < 6; room++ {
		most := 104 + 128*(room-1)
		for n := most - 127; n <= most; n++ {
			if n < 0 {
				continue
			}
			d := blank(t, 8)
			want, s := all(t, d), text(n, n)
			g := opens(t, d, 1, 1+room, 5)
			refuses(t, d, g, text(1, most+1), api.ErrFull)
			refuses(t, d, g, text(1, most+1000), api.ErrFull)
			has(t, d, want)
			steps := d.Steps()
			add(t, g, s)
			if got := d.Steps() - steps; room == len(sectors(1, s)) && got != room+2 {
				t.Errorf("Add of %d bytes: %d steps", n, got)
			}
			copy(want[1:1+room], append(sectors(5, s), noughts))
			has(t, d, want)
			opens(t, d, 1, 1+room, 5, s)
		}
		d := blank(t, 8)
		g := opens(t, d, 8-room, 8, 1)
		add(t, g, text(1, most))
		is(t, g, 2, 0)
		was := all(t, d)
		for _, s := range []string{"", "a", text(1, 104), text(1, 1000)} {
			refuses(t, d, g, s, api.ErrFull)
		}
		has(t, d, was)
		refuses(t, d, opens(t, d, 8-room, 8, 1, text(1, most)), "", api.ErrFull)
	}
}

// TestFullBehind: the room is what entries ahead left.
func TestFullBehind(t *testing.T) {
	d := blank(t, 6)
	g := opens(t, d, 0, 6, 1)
	add(t, g, text(1, 233)) // 3 sectors
	refuses(t, d, g, text(2, 361), api.ErrFull)
	add(t, g, text(2, 232))
	refuses(t, d, g, text(3, 105), api.ErrFull)
	add(t, g, text(3, 104))
	refuses(t, d, g, "", api.ErrFull)
	opens(t, d, 0, 6, 1, text(1, 233), text(2, 232), text(3, 104))
}

func TestNoSector(t *testing.T) {
	d := blank(t, 3)
	was := all(t, d)
	for at := range 4 {
		g := opens(t, d, at, at, 3)
		refuses(t, d, g, "", api.ErrFull)
		refuses(t, d, g, text(1, 300), api.ErrFull)
		g.Reset()
		is(t, g, 3, 0)
		refuses(t, d, g, "", api.ErrFull)
	}
	has(t, d, was)
}

// TestHead: an entry stands where the number that is next is at both ends, and the length is no more than there is room for.
func TestHead(t *testing.T) {
	s := text(1, 104)
	for _, next := range []uint64{1, 2, 77, 256, 1 << 56, 1<<63 + 5, math.MaxUint64 - 1} {
		for _, c := range []struct {
			head string
			ok   bool
		}{
			{first(next, 104, s, next), true},
			{first(next, 104, s, next+1), false},
			{first(next, 104, s, next-1), false},
			{first(next, 104, s, 0), false},
			{first(next, 104, s, next^1<<63), false},
			{first(next, 104, s, next^1), false},
			{first(next+1, 104, s, next), false},
			{first(next-1, 104, s, next), false},
			{first(0, 104, s, next), false},
			{first(next^1<<63, 104, s, next), false},
			{first(next^1, 104, s, next), false},
			{first(next+1, 104, s, next+1), false},
			{first(next-1, 104, s, next-1), false},
			{noughts, false},
			{strings.Repeat("\xff", 128), false},
		} {
			d := device(t, text(9, 128), c.head, noughts, text(8, 128))
			if c.ok {
				opens(t, d, 1, 3, next, s)
			} else {
				opens(t, d, 1, 3, next)
			}
			// The same behind another entry.
			d = device(t, append(sectors(next-1, "ahead"), c.head, noughts)...)
			if next == 1 {
				continue
			}
			if c.ok {
				opens(t, d, 0, 3, next-1, "ahead", s)
			} else {
				opens(t, d, 0, 3, next-1, "ahead")
			}
		}
	}
}

// TestLength: a length holds up to all that is left of the log, not of the device.
func TestLength(t *testing.T) {
	body := text(1, 104) + text(2, 128) + text(3, 128)
	for _, n := range []uint64{0, 1, 103, 104, 105, 231, 232} {
		d := device(t, noughts, first(4, n, body, 4), body[104:232], body[232:])
		opens(t, d, 1, 3, 4, body[:n])
	}
	for _, n := range []uint64{
		233, 234, 360, 361, 1000, 1 << 16, 1 << 31, 1 << 32, 1<<32 + 1, 1 << 62, 1<<63 - 1, 1 << 63, 1<<63 + 1,
		math.MaxUint64, math.MaxUint64 - 23, math.MaxUint64 - 104, 1<<56 + 1, 1<<57 - 24, 1<<64 - 256,
	} {
		d := device(t, noughts, first(4, n, body, 4), body[104:232], body[232:], noughts)
		opens(t, d, 1, 3, 4)
		d = device(t, first(3, 1, "a", 3), first(4, n, body, 4), body[104:232], body[232:], noughts)
		opens(t, d, 0, 3, 3, "a")
	}
	for room := 1; room < 4; room++ {
		d := device(t, first(4, uint64(105+128*(room-1)), body, 4), body[104:232], body[232:], noughts)
		opens(t, d, 0, room, 4)
		d = device(t, first(4, uint64(104+128*(room-1)), body, 4), body[104:232], body[232:], noughts)
		opens(t, d, 0, room, 4, body[:104+128*(room-1)])
	}
}

// TestTail: what stands behind an entry's bytes in its sectors does not count.
func TestTail(t *testing.T) {
	full := text(1, 128)
	d := device(t, first(1, 3, full, 1), first(2, 105, full, 2), full, first(3, 0, full, 3), noughts)
	opens(t, d, 0, 5, 1, full[:3], full[:104]+full[:1], "")
}

// TestRead: entries are read up to the first place where none is, whatever comes behind.
func TestRead(t *testing.T) {
	one, two, three := sectors(1, "a")[0], sectors(2, "b")[0], sectors(3, "c")[0]
	for _, c := range []struct {
		next uint64
		l    []string
		want []string
	}{
		{1, []string{one, two, three}, []string{"a", "b", "c"}},
		{1, []string{one, noughts, two, three}, []string{"a"}},
		{1, []string{one, three, two}, []string{"a"}},
		{1, []string{one, one, two}, []string{"a"}},
		{1, []string{noughts, one, two}, nil},
		{1, []string{two, one}, nil},
		{2, []string{one, two}, nil},
		{2, []string{two, three, noughts, noughts}, []string{"b", "c"}},
		{3, []string{three, one}, []string{"c"}},
	} {
		opens(t, device(t, c.l...), 0, len(c.l), c.next, c.want...)
	}
	d := device(t, one, two, three)
	opens(t, d, 0, 2, 1, "a", "b")
	opens(t, d, 1, 3, 2, "b", "c")
	opens(t, d, 1, 2, 2, "b")
}

// TestReset: the next one stands at the front, with the number that is next; elder ones are none any more.
func TestReset(t *testing.T) {
	for _, n := range sizes() {
		d := blank(t, 12)
		g := opens(t, d, 1, 11, 1)
		g.Reset()
		is(t, g, 1, 10)
		for i := range 3 {
			add(t, g, text(i, 105))
		}
		was := all(t, d)
		g.Reset()
		is(t, g, 4, 10)
		has(t, d, was)
		opens(t, d, 1, 11, 4)
		s := text(n, n)
		add(t, g, s)
		copy(was[1:], append(sectors(4, s), noughts))
		has(t, d, was)
		is(t, g, 5, 10-len(sectors(4, s)))
		opens(t, d, 1, 11, 4, s)
		add(t, g, "more")
		g.Reset()
		g.Reset()
		is(t, g, 6, 10)
		add(t, g, "again")
		opens(t, d, 1, 11, 6, "again")
	}
}

// TestResetFull: a log that is full has all its room again.
func TestResetFull(t *testing.T) {
	d := blank(t, 3)
	g := opens(t, d, 1, 3, 9)
	for i := range 5 {
		add(t, g, text(i, 232))
		refuses(t, d, g, "", api.ErrFull)
		opens(t, d, 1, 3, 9+uint64(i), text(i, 232))
		g.Reset()
		is(t, g, 10+uint64(i), 2)
	}
}

// TestLikeFirst: an entry's bytes may be first sectors of whatever numbers; neither it, nor an elder one that stood there, is taken for another one.
func TestLikeFirst(t *testing.T) {
	for next := uint64(1); next < 5; next++ {
		for _, shift := range []uint64{0, 1, 2, 3, 4, 5} {
			var b strings.Builder
			b.WriteString(text(1, 104))
			for i := range uint64(6) {
				b.WriteString(first(i+shift, 3, "bad", i+shift))
			}
			s := b.String()
			d := blank(t, 12)
			g := opens(t, d, 0, 12, next)
			add(t, g, s)
			opens(t, d, 0, 12, next, s)
			add(t, g, "b")
			opens(t, d, 0, 12, next, s, "b")
			g.Reset()
			// Now the elder bytes stand behind each that comes.
			var l []string
			from := g.Next()
			for i := range 6 {
				l = append(l, text(i, i))
				add(t, g, l[i])
				opens(t, d, 0, 12, from, l...)
			}
		}
	}
}

// TestLikeHead: an entry whose first bytes are a first sector's, too.
func TestLikeHead(t *testing.T) {
	d := blank(t, 4)
	g := opens(t, d, 0, 4, 1)
	s := eight(2) + eight(1) + text(1, 80) + eight(2)
	add(t, g, s)
	opens(t, d, 0, 4, 1, s)
	opens(t, d, 0, 4, 2)
}

// TestBytes: all bytes may be in an entry.
func TestBytes(t *testing.T) {
	var b strings.Builder
	for i := range 256 {
		b.WriteByte(byte(i))
	}
	d := blank(t, 30)
	l := []string{b.String(), noughts, strings.Repeat("\xff", 400), "é\x00ü", strings.Repeat("\x00", 500)}
	g := opens(t, d, 0, 30, 1)
	for _, s := range l {
		add(t, g, s)
	}
	opens(t, d, 0, 30, 1, l...)
}

// TestGreatest: an entry may fill the greatest device.
func TestGreatest(t *testing.T) {
	d, e := dev.New(api.MostSectors)
	if e != api.OK {
		t.Fatal(e)
	}
	g := opens(t, d, 0, api.MostSectors, 1)
	s := strings.Repeat("abcdefg", (api.MostSectors*128-24)/7+1)[:api.MostSectors*128-24]
	refuses(t, d, g, s+"x", api.ErrFull)
	add(t, g, s)
	is(t, g, 2, 0)
	g, l, e := log.Open(d, 0, api.MostSectors, 1)
	if e != api.OK || len(l) != 1 || l[0] != s {
		t.Errorf("%d entries, %d", len(l), e)
	}
	is(t, g, 2, 0)
}

// TestLastNumber: behind the greatest number there is none: noughts are no entry, and nothing can be added.
func TestLastNumber(t *testing.T) {
	d := device(t, slices.Repeat([]string{noughts}, 6)...)
	g := opens(t, d, 0, 6, math.MaxUint64-1)
	add(t, g, "a")
	is(t, g, math.MaxUint64, 5)
	add(t, g, text(1, 105))
	is(t, g, 0, 3)
	refuses(t, d, g, "", api.ErrFull)
	g.Reset()
	is(t, g, 0, 6)
	refuses(t, d, g, "", api.ErrFull)
	g = opens(t, d, 0, 6, math.MaxUint64-1, "a", text(1, 105))
	refuses(t, d, g, "", api.ErrFull)
	has(t, d, append(append(sectors(math.MaxUint64-1, "a"), sectors(math.MaxUint64, text(1, 105))...), noughts, noughts, noughts))
}

// TestOff: without power nothing is added, and ErrOff is told ahead of ErrFull; what is told without the device is told.
func TestOff(t *testing.T) {
	d := blank(t, 4)
	g := opens(t, d, 0, 4, 1)
	add(t, g, "a")
	was := all(t, d)
	d.Crash(0, 0)
	for range 2 {
		for _, s := range []string{"", "b", text(1, 104+256), text(1, 105+256), text(1, 5000)} {
			refuses(t, d, g, s, api.ErrOff)
		}
		is(t, g, 2, 3)
	}
	d.Up()
	has(t, d, was)
	opens(t, d, 0, 4, 1, "a")
	d.Crash(0, 0)
	g.Reset()
	is(t, g, 2, 4)
	refuses(t, d, g, "b", api.ErrOff)
	d.Up()
	add(t, g, "b")
	opens(t, d, 0, 4, 2, "b")
}

func TestNil(t *testing.T) {
	for name, g := range map[string]*log.Log{"nil": nil, "bare": new(log.Log)} {
		for _, s := range []string{"", "a", text(1, 1000)} {
			if e := g.Add(s); e != api.ErrOff {
				t.Errorf("%s: Add: %d", name, e)
			}
		}
		g.Reset()
		is(t, g, 0, 0)
	}
}

// TestOwn: what is answered is the caller's, and two logs of one device in parts of their own don't touch one another.
func TestOwn(t *testing.T) {
	d := blank(t, 8)
	a, b := opens(t, d, 0, 4, 1), opens(t, d, 4, 8, 100)
	for i := range 3 {
		add(t, a, fmt.Sprint("a", i))
		add(t, b, fmt.Sprint("b", i))
	}
	_, l, _ := log.Open(d, 0, 4, 1)
	l[0], l[1] = "x", "y"
	opens(t, d, 0, 4, 1, "a0", "a1", "a2")
	a.Reset()
	add(t, a, text(1, 232))
	opens(t, d, 0, 4, 4, text(1, 232))
	opens(t, d, 4, 8, 100, "b0", "b1", "b2")
}

// TestCopies: a log keeps nothing of what is on the device: a copy of the device has the entries, too, and goes its own way.
func TestCopies(t *testing.T) {
	d := blank(t, 8)
	g := opens(t, d, 0, 8, 1)
	add(t, g, "a")
	c := d.Copy()
	add(t, g, "b")
	h := opens(t, c, 0, 8, 1, "a")
	add(t, h, "c")
	opens(t, d, 0, 8, 1, "a", "b")
	opens(t, c, 0, 8, 1, "a", "c")
}
