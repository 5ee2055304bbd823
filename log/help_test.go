package log_test

import (
	"math"
	"slices"
	"strings"
	"testing"

	"offshoot/api"
	"offshoot/dev"
	"offshoot/log"
)

var noughts = strings.Repeat("\x00", 128)

// text is n bytes of which no two side by side are the same and none is a nought; each k has others.
func text(k, n int) string {
	b := make([]byte, n)
	for i := range b {
		b[i] = byte(1 + (k*41+i*7)%251)
	}
	return string(b)
}

// sizes has entries' lengths at and around all edges.
func sizes() []int {
	return []int{0, 1, 2, 103, 104, 105, 231, 232, 233, 359, 360, 361, 488, 489}
}

func far() []int { return []int{-1, -2, math.MinInt, math.MinInt32, math.MaxInt32, math.MaxInt} }

// eight is told here once more, so that no fault of the program's own hides in it.
func eight(n uint64) string {
	b := make([]byte, 8)
	for i := 7; i >= 0; i-- {
		b[i] = byte(n % 256)
		n /= 256
	}
	return string(b)
}

// first is a first sector with whatever numbers.
func first(n, size uint64, s string, last uint64) string {
	return eight(n) + eight(size) + (s + noughts)[:104] + eight(last)
}

// sectors is an entry as the chapter tells it.
func sectors(n uint64, s string) []string {
	l := []string{first(n, uint64(len(s)), s, n)}
	for at := 104; at < len(s); at += 128 {
		l = append(l, (s[at:] + noughts)[:128])
	}
	return l
}

func device(t *testing.T, l ...string) *dev.Dev {
	t.Helper()
	d, e := dev.New(len(l))
	if e != api.OK {
		t.Fatal(e)
	}
	for at, s := range l {
		lay(t, d, at, s)
	}
	return d
}

// blank is a device of n sectors, each of a text of its own.
func blank(t *testing.T, n int) *dev.Dev {
	t.Helper()
	l := make([]string, n)
	for i := range l {
		l[i] = text(100+i, 128)
	}
	return device(t, l...)
}

func lay(t *testing.T, d *dev.Dev, at int, s string) {
	t.Helper()
	if e := d.Write(at, s); e != api.OK {
		t.Fatalf("Write(%d): %d", at, e)
	}
	if e := d.Flush(); e != api.OK {
		t.Fatalf("Flush: %d", e)
	}
}

// all is what a device has.
func all(t *testing.T, d *dev.Dev) []string {
	t.Helper()
	var l []string
	for at := range d.Len() {
		s, e := d.Read(at)
		if e != api.OK {
			t.Fatalf("Read(%d): %d", at, e)
		}
		l = append(l, s)
	}
	return l
}

// has holds that the device has these sectors, all sure.
func has(t *testing.T, d *dev.Dev, l []string) {
	t.Helper()
	if d.Loose() != 0 {
		t.Errorf("%d sectors are loose", d.Loose())
	}
	for at, s := range all(t, d) {
		if s != l[at] {
			t.Errorf("sector %d is %q; must be %q", at, s, l[at])
		}
	}
}

// opens holds that the log has these entries, and what follows from them.
func opens(t *testing.T, d *dev.Dev, from, to int, next uint64, l ...string) *log.Log {
	t.Helper()
	steps := d.Steps()
	g, got, e := log.Open(d, from, to, next)
	if g == nil || e != api.OK || !slices.Equal(got, l) {
		t.Fatalf("Open(%d, %d, %d): %q, %d; must be %q", from, to, next, got, e, l)
	}
	room := to - from
	for _, s := range l {
		room -= len(sectors(1, s))
	}
	is(t, g, next+uint64(len(l)), room)
	if d.Steps() != steps {
		t.Errorf("Open took %d steps", d.Steps()-steps)
	}
	return g
}

// is holds a log's next number and what is left.
func is(t *testing.T, g *log.Log, next uint64, room int) {
	t.Helper()
	if g.Next() != next || g.Room() != room {
		t.Errorf("next is %d, room for %d; must be %d, %d", g.Next(), g.Room(), next, room)
	}
}

func add(t *testing.T, g *log.Log, s string) {
	t.Helper()
	if e := g.Add(s); e != api.OK {
		t.Fatalf("Add of %d bytes: %d", len(s), e)
	}
}

// refuses holds that an entry isn't added, and nothing is changed.
func refuses(t *testing.T, d *dev.Dev, g *log.Log, s string, want api.Errno) {
	t.Helper()
	next, room, steps, loose := g.Next(), g.Room(), d.Steps(), d.Loose()
	if e := g.Add(s); e != want {
		t.Errorf("Add of %d bytes: %d, must be %d", len(s), e, want)
	}
	is(t, g, next, room)
	if d.Steps() != steps || d.Loose() != loose {
		t.Errorf("Add of %d bytes took steps", len(s))
	}
}
