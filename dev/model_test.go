package dev_test

import (
	"math/rand"
	"testing"

	"offshoot/api"
	"offshoot/dev"
)

// model is a device told once more, place by place, as slowly as the chapter's words tell it.
type model struct {
	sure, now []string
	loose     []bool
	plan      []api.Fall
	done      []bool // falls of the plan that struck
	steps     int
	off       bool
}

func newModel(n int) *model {
	m := &model{loose: make([]bool, n)}
	for range n {
		m.sure, m.now = append(m.sure, noughts), append(m.now, noughts)
	}
	return m
}

func (m *model) crash(keep uint64, n int) {
	if m.off {
		return
	}
	m.off = true
	i, whole := 0, true
	for at := range m.now {
		if !m.loose[at] {
			continue
		}
		bit := i
		if bit > 63 {
			bit = 63
		}
		switch {
		case keep&(1<<bit) != 0:
			m.sure[at] = m.now[at]
		case whole:
			whole = false
			b := []byte(m.sure[at])
			for k := 0; k < n && k < len(b); k++ {
				b[k] = m.now[at][k]
			}
			m.sure[at] = string(b)
		}
		m.loose[at], m.now[at] = false, m.sure[at]
		i++
	}
}

func (m *model) step() bool {
	for i, f := range m.plan {
		if f.At == m.steps && !m.done[i] {
			m.done[i] = true
			m.crash(f.Keep, f.Torn)
			return false
		}
	}
	m.steps++
	return true
}

func (m *model) write(at int, s string) api.Errno {
	switch {
	case m.off:
		return api.ErrOff
	case at < 0 || at >= len(m.now) || len(s) != 128:
		return api.ErrUse
	case !m.step():
		return api.ErrOff
	}
	m.now[at], m.loose[at] = s, true
	return api.OK
}

func (m *model) flush() api.Errno {
	if m.off || !m.step() {
		return api.ErrOff
	}
	for at, s := range m.now {
		m.sure[at], m.loose[at] = s, false
	}
	return api.OK
}

// same holds the device against the model in all that can be asked.
func (m *model) same(t *testing.T, d *dev.Dev) {
	t.Helper()
	loose := 0
	for at, s := range m.now {
		if m.loose[at] {
			loose++
		}
		e := api.OK
		if m.off {
			s, e = "", api.ErrOff
		}
		if got, f := d.Read(at); got != s || f != e {
			t.Fatalf("Read(%d): %q, %d; must be %q, %d", at, got, f, s, e)
		}
	}
	if d.Off() != m.off || d.Len() != len(m.now) {
		t.Fatalf("off: %t, %d sectors", d.Off(), d.Len())
	}
	counts(t, d, m.steps, loose)
	if t.Failed() {
		t.FailNow()
	}
}

func somePlan(r *rand.Rand, from int) []api.Fall {
	l := make([]api.Fall, r.Intn(5))
	for i := range l {
		l[i] = api.Fall{At: from - 2 + r.Intn(12), Keep: r.Uint64() & r.Uint64(), Torn: r.Intn(160) - 16}
	}
	return l
}

// TestModel: whatever comes, by fixed seeds, the device answers as the model does; so does a copy that takes its place.
func TestModel(t *testing.T) {
	for seed := range 150 {
		r := rand.New(rand.NewSource(int64(seed)))
		n := []int{0, 1, 2, 5, 70, 130}[r.Intn(6)]
		d, m := fresh(t, n), newModel(n)
		for i := range 400 {
			switch k := r.Intn(100); {
			case k < 75:
				at, s := r.Intn(n+2)-1, mark(i)
				switch r.Intn(20) {
				case 0:
					s = s[r.Intn(2):]
				case 1:
					s = noughts
				}
				if e, f := d.Write(at, s), m.write(at, s); e != f {
					t.Fatalf("seed %d, Write(%d): %d, must be %d", seed, at, e, f)
				}
			case k < 80:
				if e, f := d.Flush(), m.flush(); e != f {
					t.Fatalf("seed %d, Flush: %d, must be %d", seed, e, f)
				}
			case k < 82:
				keep, n := r.Uint64()|r.Uint64(), r.Intn(160)-16
				d.Crash(keep, n)
				m.crash(keep, n)
			case k < 95:
				if d.Up() != m.off {
					t.Fatalf("seed %d, Up: %t", seed, !m.off)
				}
				m.off = false
			case k < 98:
				m.plan = somePlan(r, m.steps)
				m.done = make([]bool, len(m.plan))
				d.Plan(m.plan)
			default:
				d = d.Copy()
			}
			m.same(t, d)
		}
	}
}
