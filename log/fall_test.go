package log_test

import (
	"math"
	"slices"
	"testing"

	"offshoot/api"
	"offshoot/dev"
	"offshoot/log"
)

// keeps has every Keep that makes a difference for so many sectors.
func keeps(n int) []uint64 {
	if n > 6 {
		return []uint64{0, 1, 2, 5, 1 << 62, 1 << 63, 1<<63 - 1, math.MaxUint64 - 1, math.MaxUint64}
	}
	var l []uint64
	for k := range 1 << n {
		l = append(l, uint64(k))
	}
	return l
}

// torns has Torn below, at and above all edges of a first sector.
func torns() []int {
	l := []int{math.MinInt, -1, math.MaxInt, 500}
	for _, at := range []int{0, 8, 16, 120, 128} {
		l = append(l, at-1, at, at+1)
	}
	return append(l, 7, 15, 64, 122, 123, 124, 125, 126)
}

// before is a log as it stands ahead of an Add: what it was made by, and what it has.
type before struct {
	d    *dev.Dev
	next uint64 // the number that the first of its entries has
	l    []string
}

const from, to = 1, 11

// logs has logs of all kinds: over noughts and over other bytes, of numbers whose bytes are noughts, with entries or none, begun anew over elder ones that are greater.
func logs(t *testing.T) []before {
	t.Helper()
	var l []before
	for _, next := range []uint64{1, 255, 256, 0x0101010101010101, 1<<32 - 1} {
		for _, d := range []*dev.Dev{device(t, slices.Repeat([]string{noughts}, 12)...), blank(t, 12)} {
			l = append(l, before{d.Copy(), next, nil})
			g := opens(t, d, from, to, next)
			add(t, g, "ahead")
			add(t, g, text(3, 233))
			l = append(l, before{d.Copy(), next, []string{"ahead", text(3, 233)}})
			g.Reset()
			l = append(l, before{d.Copy(), next + 2, nil})
			add(t, g, sectors(next+3, text(5, 400))[0]+sectors(next+4, "no")[0]+sectors(next+3, "no")[0])
			g.Reset()
			add(t, g, "anew")
			l = append(l, before{d.Copy(), next + 3, []string{"anew"}})
		}
	}
	return l
}

// steps is how many steps it takes to add an entry, and how many sectors are loose ahead of each.
func steps(t *testing.T, b before, s string) []int {
	t.Helper()
	d := b.d.Copy()
	add(t, opens(t, d, from, to, b.next, b.l...), s)
	n := d.Steps() - b.d.Steps()
	var l []int
	for i := range n {
		l = append(l, min(i, n-3))
	}
	l[n-2], l[n-1] = 0, 1
	return l
}

// TestFall: wherever the power fails in an Add, whatever is kept and torn: the entries are those that were there, and perhaps the new one, whole; and the log goes on.
func TestFall(t *testing.T) {
	for _, b := range logs(t) {
		for _, n := range []int{0, 1, 104, 105, 361} {
			s := text(7, n)
			count := steps(t, b, s)
			for i, loose := range count {
				for _, keep := range keeps(loose) {
					for _, torn := range torns() {
						fall(t, b, s, api.Fall{At: b.d.Steps() + i, Keep: keep, Torn: torn}, i == len(count)-1)
					}
				}
			}
		}
	}
}

// fall adds an entry while the power fails; last: at the last step, where alone it may have come through.
func fall(t *testing.T, b before, s string, f api.Fall, last bool) {
	t.Helper()
	d := b.d.Copy()
	g, _, _ := log.Open(d, from, to, b.next)
	room := g.Room()
	d.Plan([]api.Fall{f})
	if e := g.Add(s); e != api.ErrOff || !d.Off() {
		t.Fatalf("Add with a fall at %d: %d", f.At, e)
	}
	is(t, g, b.next+uint64(len(b.l)), room)
	d.Up()
	through := last && (f.Keep&1 == 1 || f.Torn >= 128 || whole(t, d, b, s))
	want := b.l
	if through {
		want = append(slices.Clone(b.l), s)
	}
	g = opens(t, d, from, to, b.next, want...)
	// A shorter one, so that bytes of the one that failed stand behind it.
	add(t, g, "on")
	opens(t, d, from, to, b.next, append(slices.Clone(want), "on")...)
}

// whole tells whether what was torn is all there, as the bytes that were lost were the same.
func whole(t *testing.T, d *dev.Dev, b before, s string) bool {
	t.Helper()
	at := from
	for _, x := range b.l {
		at += len(sectors(1, x))
	}
	l := sectors(b.next+uint64(len(b.l)), s)
	return slices.Equal(all(t, d)[at:at+len(l)], l)
}

// TestFallOrder: the sectors but the first are written one behind the other, then the noughts; all are sure ahead of the first one.
func TestFallOrder(t *testing.T) {
	for _, end := range []int{to, from + 4} { // with room for the noughts, and without
		d := blank(t, 12)
		s := text(7, 488) // 4 sectors
		l := append(sectors(6, s), noughts)
		if end != to {
			l = l[:4]
		}
		n := len(l) - 1
		for i := range n + 3 {
			for _, keep := range []uint64{0, math.MaxUint64} {
				c := d.Copy()
				g := opens(t, c, from, end, 6)
				c.Plan([]api.Fall{{At: d.Steps() + i, Keep: keep}})
				if e := g.Add(s); e != api.ErrOff {
					t.Fatalf("Add with a fall: %d", e)
				}
				c.Up()
				want := all(t, d)
				if keep != 0 || i > n {
					copy(want[from+1:], l[1:1+min(i, n)])
				}
				if keep != 0 && i == n+2 {
					want[from] = l[0]
				}
				has(t, c, want)
			}
		}
	}
}

// TestFallAgain: a log that wasn't opened again behind a fall goes on, too; by one fall more there is never a mix of two entries.
func TestFallAgain(t *testing.T) {
	x, y := text(1, 361), text(2, 489)
	for _, b := range logs(t) {
		n := len(steps(t, b, x))
		for i := range n {
			for _, keep := range []uint64{0, 1, math.MaxUint64} {
				for k := 0; twice(t, b, x, api.Fall{At: i, Keep: keep}, y, api.Fall{At: k, Keep: keep}); k++ {
					twice(t, b, x, api.Fall{At: i, Keep: keep}, y, api.Fall{At: k})
					twice(t, b, x, api.Fall{At: i, Keep: keep}, y, api.Fall{At: k, Keep: math.MaxUint64 - 1})
					twice(t, b, x, api.Fall{At: i}, y, api.Fall{At: k, Keep: keep, Torn: 60})
				}
			}
		}
	}
}

// twice adds x while the power fails, and then y by the same log while it fails once more, their steps counted from each Add on; it tells whether the second one failed.
func twice(t *testing.T, b before, x string, f api.Fall, y string, h api.Fall) bool {
	t.Helper()
	d := b.d.Copy()
	g, _, _ := log.Open(d, from, to, b.next)
	f.At += d.Steps()
	d.Plan([]api.Fall{f})
	if e := g.Add(x); e != api.ErrOff {
		t.Fatalf("Add with a fall: %d", e)
	}
	d.Up()
	is(t, g, b.next+uint64(len(b.l)), g.Room())
	h.At += d.Steps()
	d.Plan([]api.Fall{h})
	e := g.Add(y)
	d.Up()
	d.Plan(nil)
	_, got, _ := log.Open(d, from, to, b.next)
	withX, withY := append(slices.Clone(b.l), x), append(slices.Clone(b.l), y)
	switch {
	case e == api.OK && slices.Equal(got, withY):
	case e == api.ErrOff && (slices.Equal(got, b.l) || slices.Equal(got, withX) || slices.Equal(got, withY)):
	default:
		t.Fatalf("falls %v, %v: %d, %q", f, h, e, got)
	}
	if e == api.OK {
		add(t, g, "on")
		opens(t, d, from, to, b.next, append(withY, "on")...)
	}
	return e == api.ErrOff
}

// TestFallReset: an entry that failed and came through is none behind Reset and a new one of its number.
func TestFallReset(t *testing.T) {
	d := blank(t, 6)
	g := opens(t, d, 0, 6, 1)
	add(t, g, "a")
	d.Plan([]api.Fall{{At: d.Steps() + 3, Keep: 1}})
	if e := g.Add("lost"); e != api.ErrOff {
		t.Fatalf("Add with a fall: %d", e)
	}
	d.Up()
	opens(t, d, 0, 6, 1, "a", "lost")
	g.Reset()
	is(t, g, 2, 6)
	add(t, g, "b")
	opens(t, d, 0, 6, 2, "b")
	add(t, g, "c")
	opens(t, d, 0, 6, 2, "b", "c")
}

// TestFallUntilDone: an Add that is tried again till it is done is there once.
func TestFallUntilDone(t *testing.T) {
	for _, keep := range []uint64{0, math.MaxUint64} {
		d := blank(t, 12)
		g := opens(t, d, from, to, 1)
		var want []string
		for i, n := range []int{300, 5, 104, 105} {
			var l []api.Fall
			for k := range 6 {
				l = append(l, api.Fall{At: d.Steps() + k, Keep: keep, Torn: 30})
			}
			d.Plan(l)
			s := text(i, n)
			for range 20 {
				if g.Add(s) == api.OK {
					break
				}
				d.Up()
			}
			d.Plan(nil)
			want = append(want, s)
			opens(t, d, from, to, 1, want...)
		}
	}
}
