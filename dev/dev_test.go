package dev_test

import (
	"strings"
	"testing"

	"offshoot/api"
	"offshoot/dev"
)

func TestNew(t *testing.T) {
	for _, n := range []int{0, 1, 2, 65535, 65536} {
		d := fresh(t, n)
		if d.Len() != n || d.Off() {
			t.Errorf("New(%d): %d sectors, off: %t", n, d.Len(), d.Off())
		}
		counts(t, d, 0, 0)
		for at := range n {
			if s, e := d.Read(at); s != noughts || e != api.OK {
				t.Fatalf("New(%d), Read(%d): %q, %d", n, at, s, e)
			}
		}
	}
	for _, n := range append(far(), 65537) {
		if d, e := dev.New(n); d != nil || e != api.ErrUse {
			t.Errorf("New(%d): %v, %d", n, d, e)
		}
	}
}

func TestWrite(t *testing.T) {
	d := fresh(t, 4)
	write(t, d, 0, mark(1))
	reads(t, d, mark(1), noughts, noughts, noughts)
	counts(t, d, 1, 1)
	write(t, d, 3, mark(2))
	reads(t, d, mark(1), noughts, noughts, mark(2))
	counts(t, d, 2, 2)
	flush(t, d)
	reads(t, d, mark(1), noughts, noughts, mark(2))
	counts(t, d, 3, 0)
	write(t, d, 3, mark(3))
	reads(t, d, mark(1), noughts, noughts, mark(3))
	counts(t, d, 4, 1)
	// Noughts are a text like others, over what is loose, over what is sure, and over noughts.
	for i, at := range []int{3, 0, 1} {
		write(t, d, at, noughts)
		counts(t, d, 5+i, 1+i)
	}
	reads(t, d, noughts, noughts, noughts, noughts)
}

// TestGreatest: the first and the last place of the greatest device are written, kept and lost like others.
func TestGreatest(t *testing.T) {
	last := 1<<16 - 1
	d := fresh(t, 1<<16)
	write(t, d, 0, mark(1))
	write(t, d, last, mark(2))
	flush(t, d)
	write(t, d, 0, mark(3))
	write(t, d, last, mark(4))
	d.Crash(2, 0)
	up(t, d)
	for at, w := range map[int]string{0: mark(1), 1: noughts, last - 1: noughts, last: mark(4)} {
		if s, e := d.Read(at); s != w || e != api.OK {
			t.Errorf("Read(%d): %q, %d", at, s, e)
		}
	}
	if e := d.Write(1<<16, mark(5)); e != api.ErrUse {
		t.Errorf("Write behind the last place: %d", e)
	}
}

// TestUse: what may not be is told ErrUse, is no step, and changes nothing.
func TestUse(t *testing.T) {
	d := fresh(t, 3)
	write(t, d, 1, mark(1))
	flush(t, d)
	write(t, d, 1, mark(2))
	d.Plan([]api.Fall{{At: 3}})
	for _, at := range append(far(), 3, 4, 1<<16) {
		for _, s := range []string{"", mark(3), mark(3)[1:]} {
			if e := d.Write(at, s); e != api.ErrUse {
				t.Errorf("Write(%d) of %d bytes: %d", at, len(s), e)
			}
		}
		if s, e := d.Read(at); s != "" || e != api.ErrUse {
			t.Errorf("Read(%d): %q, %d", at, s, e)
		}
	}
	for _, s := range []string{"", "x", mark(3)[:127], mark(3) + "x", mark(3) + mark(3), strings.Repeat("é", 128)} {
		if e := d.Write(1, s); e != api.ErrUse {
			t.Errorf("Write of %d bytes: %d", len(s), e)
		}
	}
	reads(t, d, noughts, mark(2), noughts)
	counts(t, d, 3, 1)
	fails(t, d, d.Flush())
}

func TestNoSector(t *testing.T) {
	d := fresh(t, 0)
	if e := d.Write(0, mark(1)); e != api.ErrUse {
		t.Errorf("Write: %d", e)
	}
	if s, e := d.Read(0); s != "" || e != api.ErrUse {
		t.Errorf("Read: %q, %d", s, e)
	}
	d.Plan([]api.Fall{{At: 1}})
	flush(t, d)
	counts(t, d, 1, 0)
	fails(t, d, d.Flush())
	up(t, d)
	d.Crash(1, 1)
	up(t, d)
	flush(t, d)
	counts(t, d, 2, 0)
}

// TestBytes: all bytes may be in a sector, and its text is 128 bytes, not signs.
func TestBytes(t *testing.T) {
	var b strings.Builder
	for i := range 256 {
		b.WriteByte(byte(i))
	}
	low, high := b.String()[:128], b.String()[128:]
	d := fresh(t, 3)
	write(t, d, 0, low)
	write(t, d, 1, high)
	write(t, d, 2, strings.Repeat("é", 64))
	reads(t, d, low, high, strings.Repeat("é", 64))
	flush(t, d)
	reads(t, d, low, high, strings.Repeat("é", 64))
}

// TestLoose: a sector is loose from its Write to the next Flush, and one that is written twice is so once.
func TestLoose(t *testing.T) {
	d := fresh(t, 3)
	for i, at := range []int{2, 0, 2, 2, 1, 0} {
		write(t, d, at, mark(i))
		counts(t, d, i+1, []int{1, 2, 2, 2, 3, 3}[i])
	}
	reads(t, d, mark(5), mark(4), mark(3))
	flush(t, d)
	counts(t, d, 7, 0)
	flush(t, d)
	counts(t, d, 8, 0)
	write(t, d, 0, mark(5))
	counts(t, d, 9, 1)
	d.Crash(0, 0)
	counts(t, d, 9, 0)
	up(t, d)
	counts(t, d, 9, 0)
	reads(t, d, mark(5), mark(4), mark(3))
}

// TestReadIsNoStep: nor are the calls that only tell.
func TestReadIsNoStep(t *testing.T) {
	d := fresh(t, 1)
	d.Plan([]api.Fall{{At: 0}})
	for range 3 {
		reads(t, d, noughts)
		counts(t, d, 0, 0)
		if d.Off() || d.Up() || d.Copy() == nil {
			t.Error("it has power")
		}
	}
	fails(t, d, d.Write(0, mark(1)))
}

// TestOff: without power nothing is done, and ErrOff is told ahead of ErrUse.
func TestOff(t *testing.T) {
	d := fresh(t, 2)
	write(t, d, 0, mark(1))
	flush(t, d)
	d.Plan([]api.Fall{{At: 2}, {At: 3}})
	d.Crash(0, 0)
	for range 2 {
		if !d.Off() || d.Len() != 2 {
			t.Errorf("off: %t, %d sectors", d.Off(), d.Len())
		}
		for _, at := range append(far(), 0, 1, 2) {
			for _, s := range []string{"", mark(2), mark(2) + "x"} {
				if e := d.Write(at, s); e != api.ErrOff {
					t.Errorf("Write(%d) of %d bytes: %d", at, len(s), e)
				}
			}
			if s, e := d.Read(at); s != "" || e != api.ErrOff {
				t.Errorf("Read(%d): %q, %d", at, s, e)
			}
		}
		if e := d.Flush(); e != api.ErrOff {
			t.Errorf("Flush: %d", e)
		}
		counts(t, d, 2, 0)
		d.Crash(1<<64-1, 128)
	}
	up(t, d)
	reads(t, d, mark(1), noughts)
	// What was asked without power struck no fall.
	fails(t, d, d.Write(1, mark(3)))
	up(t, d)
	write(t, d, 1, mark(3))
	fails(t, d, d.Flush())
}

func TestUp(t *testing.T) {
	d := fresh(t, 1)
	if d.Up() || d.Off() {
		t.Error("it had power")
	}
	write(t, d, 0, mark(1))
	if d.Up() {
		t.Error("it had power")
	}
	counts(t, d, 1, 1)
	d.Crash(1, 0)
	up(t, d)
	if d.Up() {
		t.Error("it has power again")
	}
	reads(t, d, mark(1))
}

func TestNil(t *testing.T) {
	var d *dev.Dev
	for _, at := range append(far(), 0, 1) {
		if e := d.Write(at, mark(1)); e != api.ErrOff {
			t.Errorf("Write(%d): %d", at, e)
		}
		if e := d.Write(at, ""); e != api.ErrOff {
			t.Errorf("Write(%d) of no bytes: %d", at, e)
		}
		if s, e := d.Read(at); s != "" || e != api.ErrOff {
			t.Errorf("Read(%d): %q, %d", at, s, e)
		}
		d.Crash(uint64(at), at)
		d.Plan([]api.Fall{{At: at}})
	}
	if e := d.Flush(); e != api.ErrOff {
		t.Errorf("Flush: %d", e)
	}
	d.Plan(nil)
	if !d.Off() || d.Up() || !d.Off() || d.Len() != 0 || d.Copy() != nil {
		t.Error("a nil one has no power and nothing else")
	}
	counts(t, d, 0, 0)
}

// TestBare: a device that New did not make has no sectors, and no call panics.
func TestBare(t *testing.T) {
	for _, d := range []*dev.Dev{new(dev.Dev), new(dev.Dev).Copy()} {
		if d.Len() != 0 || d.Off() || d.Write(0, mark(1)) != api.ErrUse || d.Flush() != api.OK {
			t.Error("a bare one is not like New(0)")
		}
		d.Plan([]api.Fall{{At: 1, Keep: 1, Torn: 1}})
		fails(t, d, d.Flush())
		up(t, d)
		reads(t, d)
		counts(t, d, 1, 0)
	}
}

// TestCopy: a copy has all that the device has, and goes its own way, as the device does.
func TestCopy(t *testing.T) {
	d := fresh(t, 3)
	write(t, d, 0, mark(1))
	flush(t, d)
	write(t, d, 0, mark(2))
	write(t, d, 1, mark(3))
	d.Plan([]api.Fall{{At: 6, Keep: 2}, {At: 4, Keep: 1}})

	c := d.Copy()
	reads(t, c, mark(2), mark(3), noughts)
	counts(t, c, 4, 2)
	fails(t, c, c.Write(1, mark(4)))
	up(t, c)
	reads(t, c, mark(2), noughts, noughts)
	write(t, c, 2, mark(5))
	flush(t, c)
	fails(t, c, c.Flush())
	counts(t, c, 6, 0)

	reads(t, d, mark(2), mark(3), noughts)
	counts(t, d, 4, 2)
	d.Plan([]api.Fall{{At: 4, Keep: 2}})
	fails(t, d, d.Flush())
	off := d.Copy()
	if !off.Off() {
		t.Error("a copy of one without power has power")
	}
	up(t, d)
	reads(t, d, mark(1), mark(3), noughts)
	counts(t, d, 4, 0)
	if !off.Off() || !c.Off() {
		t.Error("power came to a copy, too")
	}
	up(t, off)
	write(t, off, 2, mark(6))
	reads(t, off, mark(1), mark(3), mark(6))
	reads(t, d, mark(1), mark(3), noughts)
	counts(t, d, 4, 0)
	up(t, c)
	reads(t, c, mark(2), noughts, mark(5))
}

// TestCopyFlush: what a copy makes sure, or loses, is neither sure nor lost in the device.
func TestCopyFlush(t *testing.T) {
	d := fresh(t, 2)
	write(t, d, 0, mark(1))
	c, l := d.Copy(), d.Copy()
	flush(t, c)
	l.Crash(0, 5)
	counts(t, d, 1, 1)
	write(t, d, 1, mark(2))
	counts(t, c, 2, 0)
	reads(t, c, mark(1), noughts)
	d.Crash(2, 0)
	up(t, d)
	reads(t, d, noughts, mark(2))
	up(t, l)
	reads(t, l, torn(mark(1), 5, noughts), noughts)
}

// TestCopyPlan: a new plan, or a fall, of one of two changes nothing of the other one.
func TestCopyPlan(t *testing.T) {
	d := fresh(t, 1)
	d.Plan([]api.Fall{{At: 0}, {At: 1}})
	a, b := d.Copy(), d.Copy()
	a.Plan([]api.Fall{{At: 2}})
	b.Plan(nil)
	fails(t, d, d.Flush())
	c := d.Copy()
	for range 2 {
		flush(t, a)
		flush(t, b)
	}
	fails(t, a, a.Flush())
	flush(t, b)
	for _, x := range []*dev.Dev{c, d} {
		up(t, x)
		flush(t, x)
		fails(t, x, x.Flush())
		up(t, x)
		flush(t, x)
	}
}
