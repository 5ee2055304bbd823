package rec_test

import (
	"math/rand"
	"slices"
	"testing"

	"offshoot/api"
	"offshoot/dev"
	"offshoot/rec"
)

// anyChanges has changes of all kinds, now and then one that may not be.
func anyChanges(r *rand.Rand, m *model) []api.Change {
	var l []api.Change
	for range r.Intn(6) {
		id := uint64(r.Intn(12))
		switch k := r.Intn(60); {
		case k == 0:
			l = append(l, put(id, text(1, 499)))
		case k == 1:
			l = append(l, api.Change{ID: id, S: "x", Gone: true})
		case k < 6:
			l = append(l, inEntry(id, m.next+uint64(r.Intn(3))))
		case k < 11:
			l = append(l, inImage(id, m.turn+uint64(r.Intn(3))))
		case k < 25:
			l = append(l, gone(id))
		default:
			l = append(l, put(^id, text(r.Intn(99), r.Intn(1+r.Intn(499)))))
		}
	}
	return l
}

// played is a store that is played with by a seed.
type played struct {
	d     *dev.Dev
	s     *rec.Store
	m     *model
	clean bool // nothing of a commit that failed stands on the device
}

// TestModel: whatever comes, by fixed seeds, with falls and without: answers, records and sectors are those that the chapter tells.
func TestModel(t *testing.T) {
	for seed := range 400 {
		r := rand.New(rand.NewSource(int64(seed)))
		p := &played{clean: true}
		p.d, p.s, p.m = fresh(t, 16+r.Intn(60))
		falls := seed%3 > 0
		for range 120 {
			l := anyChanges(r, p.m)
			if falls && r.Intn(4) == 0 {
				p.d.Plan([]api.Fall{{At: p.d.Steps() + r.Intn(12), Keep: r.Uint64(), Torn: r.Intn(140) - 5}})
			}
			p.commit(t, l)
			p.d.Plan(nil)
			if r.Intn(5) == 0 {
				p.s = opens(t, p.d, p.m)
			}
			if t.Failed() {
				t.Fatalf("seed %d", seed)
			}
		}
		opens(t, p.d, p.m)
	}
}

// commit does changes, perhaps with a fall.
func (p *played) commit(t *testing.T, l []api.Change) {
	t.Helper()
	after := p.m.copy()
	_, want := after.commit(l)
	handed := slices.Clone(l)
	e := p.s.Commit(l)
	if !slices.Equal(l, handed) {
		t.Error("what was handed in was changed")
	}
	if e == api.ErrOff && want == api.OK && p.d.Off() {
		is(t, p.s, p.m.all, p.m.turn)
		p.d.Up()
		p.s = stoodUp(t, p.d)
		p.m, p.clean = known(t, p.s, p.m, l), false
		p.m.next, p.m.at = p.follows(t, after)
		return
	}
	if e != want {
		t.Errorf("Commit of %d changes: %d, must be %d", len(l), e, want)
	}
	p.m = after
	is(t, p.s, p.m.all, p.m.turn)
	if p.clean {
		stands(t, p.d, p.m)
	}
}

// follows is the next entry's number and place, by what came through of a commit that failed.
func (p *played) follows(t *testing.T, after *model) (uint64, int) {
	t.Helper()
	if p.m.turn == after.turn && after.at > p.m.at {
		head, _ := p.d.Read(p.m.at)
		if head == after.l[p.m.at] {
			return after.next, after.at
		}
	}
	return p.m.next, p.m.at
}
