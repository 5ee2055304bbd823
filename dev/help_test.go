package dev_test

import (
	"math"
	"strings"
	"testing"

	"offshoot/api"
	"offshoot/dev"
)

var noughts = strings.Repeat("\x00", 128)

// mark is a sector's text: each k has one of its own, no two bytes of it that stand side by side are the same, and none is a nought.
func mark(k int) string {
	b := make([]byte, 128)
	for i := range b {
		b[i] = byte(1 + (k*37+i*5)%251)
	}
	return string(b)
}

// torn is a sector of which so many bytes came through, over what was sure.
func torn(written string, n int, sure string) string { return written[:n] + sure[n:] }

// far has places and counts that are far from all that may be.
func far() []int { return []int{-1, -2, math.MinInt, math.MinInt32, math.MaxInt32, math.MaxInt} }

func fresh(t *testing.T, n int) *dev.Dev {
	t.Helper()
	d, e := dev.New(n)
	if d == nil || e != api.OK {
		t.Fatalf("New(%d): %v, %d", n, d, e)
	}
	return d
}

func write(t *testing.T, d *dev.Dev, at int, s string) {
	t.Helper()
	if e := d.Write(at, s); e != api.OK {
		t.Fatalf("Write(%d): %d", at, e)
	}
}

func flush(t *testing.T, d *dev.Dev) {
	t.Helper()
	if e := d.Flush(); e != api.OK {
		t.Fatalf("Flush: %d", e)
	}
}

func up(t *testing.T, d *dev.Dev) {
	t.Helper()
	if !d.Off() || !d.Up() || d.Off() {
		t.Fatal("Up: it had power, or has none")
	}
}

// fails holds that the answer to a step is ErrOff, and the power is gone by it.
func fails(t *testing.T, d *dev.Dev, e api.Errno) {
	t.Helper()
	if e != api.ErrOff || !d.Off() {
		t.Fatalf("a fall at step %d: %d, off: %t", d.Steps(), e, d.Off())
	}
}

// reads holds that the sectors from the place 0 on are these, and that there are no more.
func reads(t *testing.T, d *dev.Dev, l ...string) {
	t.Helper()
	if d.Len() != len(l) {
		t.Fatalf("%d sectors, must be %d", d.Len(), len(l))
	}
	for at, w := range l {
		if s, e := d.Read(at); s != w || e != api.OK {
			t.Errorf("Read(%d): %q, %d; must be %q", at, s, e, w)
		}
	}
}

// counts holds how many steps there were, and how many sectors are loose.
func counts(t *testing.T, d *dev.Dev, steps, loose int) {
	t.Helper()
	if d.Steps() != steps || d.Loose() != loose {
		t.Errorf("%d steps, %d loose; must be %d, %d", d.Steps(), d.Loose(), steps, loose)
	}
}
