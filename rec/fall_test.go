package rec_test

import (
	"maps"
	"math"
	"slices"
	"testing"

	"offshoot/api"
	"offshoot/dev"
	"offshoot/rec"
)

// before is a store as it stands ahead of a commit.
type before struct {
	name string
	d    *dev.Dev
	m    *model
}

// inEntry is a change of a record that has first sectors of entries and of images within it, from the number n on; in a batch that begins with it these begin where the log's sectors do.
func inEntry(id, n uint64) api.Change {
	return put(id, text(1, 92)+sectors(n, "\x00\x00")[0]+sectors(n+1, batch([]api.Change{gone(id)}))[0]+imageOf(n + 1)[0][:120])
}

// inImage is one of a record that fills a page of an image, and in which these begin where the image's sectors do.
func inImage(id, n uint64) api.Change {
	return put(id, text(1, 82)+imageOf(n)[0]+imageOf(n + 1)[0]+sectors(n, "\x00\x00")[0]+text(2, 498-82-3*128))
}

// imageOf is an image that nobody laid.
func imageOf(n uint64) []string {
	return sectors(n, eight(n+1)+pagesOf(map[uint64]string{1: "no"}))
}

// befores has stores of all kinds: on a device of so many sectors, with or without images, with room in the log or none, over elder entries and images of other lengths.
func befores(t *testing.T, n int) []before {
	t.Helper()
	d, s, m := fresh(t, n)
	var l []before
	take := func(name string) {
		l = append(l, before{name, d.Copy(), m.copy()})
	}
	fill := func() {
		for turn := m.turn; m.at < n && m.turn == turn; {
			does(t, d, s, m, put(1, text(m.at, 30)), gone(4))
		}
	}
	take("new")
	does(t, d, s, m, put(1, "one"), put(2, "two"))
	take("an entry")
	fill()
	take("a full log")
	for i := range uint64(3) {
		does(t, d, s, m, append(takes(s.IDs()), inImage(4, i+1))...)
		take("an image")
		does(t, d, s, m, inEntry(4, m.next+i))
		take("an entry of any bytes")
		does(t, d, s, m, gone(1), put(5, text(5, 5)), gone(4))
		take("an entry over elder ones")
		fill()
		take("a full log behind an image")
	}
	does(t, d, s, m, takes(s.IDs())...)
	take("no record")
	fill()
	take("a full log without much")
	return l
}

// keeps has Keeps that make a difference for some sectors, and for the last one alone.
func keeps(last bool) []uint64 {
	if last {
		return []uint64{0, 1, math.MaxUint64 - 1}
	}
	return []uint64{0, 1, 2, 5, 1<<63 - 1, math.MaxUint64 - 1, math.MaxUint64}
}

// torns has Torn below, at and above the edges of the first sector, which is written at last.
func torns(last bool) []int {
	if last {
		return []int{-1, 0, 1, 7, 8, 9, 16, 64, 119, 120, 121, 127, 128, 500}
	}
	return []int{0, 60, 128}
}

// changes has commits of all kinds: some go to the log, or to the image.
func changes(m *model) [][]api.Change {
	all := takes(slices.Sorted(maps.Keys(m.all)))
	return [][]api.Change{
		nil,
		{put(1, "once more"), gone(2), put(8, "eight")},
		slices.Concat([]api.Change{inEntry(4, m.next)}, all),
		{inEntry(4, m.next), gone(4)},
		slices.Concat(all, []api.Change{inImage(4, m.turn+1)}),
		slices.Concat(all, []api.Change{put(9, "alone")}),
	}
}

// TestFall: wherever the power fails in a commit, whatever is kept and torn: the records are those behind all commits that were done, or behind that one, too; and the store that stands up goes on.
func TestFall(t *testing.T) {
	t.Parallel()
	for _, n := range []int{16, 36} {
		for _, b := range befores(t, n) {
			for _, l := range changes(b.m) {
				after := b.m.copy()
				steps, e := after.commit(l)
				if e != api.OK {
					continue
				}
				for i := range steps {
					last := i == steps-1
					for _, keep := range keeps(last) {
						for _, torn := range torns(last) {
							fall(t, b, after, l, api.Fall{At: b.d.Steps() + i, Keep: keep, Torn: torn}, last)
						}
					}
				}
			}
		}
	}
}

// fall commits while the power fails; last: at the last step, where alone it may have come through.
func fall(t *testing.T, b before, after *model, l []api.Change, f api.Fall, last bool) {
	t.Helper()
	d := b.d.Copy()
	// Laid ahead of Open, that takes no step.
	d.Plan([]api.Fall{f})
	s := opens(t, d, b.m)
	snap := s.Snap()
	if e := s.Commit(l); e != api.ErrOff || !s.Dead() || !d.Off() {
		t.Fatalf("%s: Commit with a fall at %d: %d", b.name, f.At, e)
	}
	is(t, s, b.m.all, b.m.turn)
	has(t, snap, b.m.all)
	d.Up()
	if e := s.Commit(l); e != api.ErrOff {
		t.Fatalf("%s: Commit behind a fall: %d", b.name, e)
	}
	m := b.m
	if last && (f.Keep&1 == 1 || f.Torn >= 128) {
		m = after
	}
	s = opens(t, d, m)
	opens(t, d, m)
	m = m.copy()
	for i, more := range [][]api.Change{l, {put(3, "on")}} {
		_, want := m.commit(more)
		if e := s.Commit(more); e != want {
			t.Fatalf("%s: commit %d behind a fall at %d: %d, must be %d", b.name, i, f.At, e, want)
		}
		s = opens(t, d, m)
	}
	if t.Failed() {
		t.Fatalf("%s: fall %v, %d changes", b.name, f, len(l))
	}
}

// TestFallAgain: a second fall at any step of the commit that comes behind the first one.
func TestFallAgain(t *testing.T) {
	t.Parallel()
	for _, b := range befores(t, 16) {
		for _, l := range changes(b.m) {
			steps, e := b.m.copy().commit(l)
			if e != api.OK {
				continue
			}
			for i := range steps {
				for _, keep := range []uint64{0, 2, math.MaxUint64} {
					again(t, b, l, api.Fall{At: b.d.Steps() + i, Keep: keep, Torn: 60})
				}
			}
		}
	}
}

// again lets the power fail in a commit, and then in each step of the next one.
func again(t *testing.T, b before, l []api.Change, f api.Fall) {
	t.Helper()
	d := b.d.Copy()
	d.Plan([]api.Fall{f})
	s := opens(t, d, b.m)
	if e := s.Commit(l); e != api.ErrOff {
		t.Fatalf("%s: Commit with a fall: %d", b.name, e)
	}
	d.Up()
	s = stoodUp(t, d)
	m := known(t, s, b.m, l)
	for _, more := range changes(m)[1:5] {
		steps, e := m.copy().commit(more)
		if e != api.OK {
			continue
		}
		for i := range steps {
			for _, keep := range []uint64{0, math.MaxUint64} {
				d := d.Copy()
				d.Plan([]api.Fall{{At: d.Steps() + i, Keep: keep, Torn: 50}})
				s := opens(t, d, m)
				if e := s.Commit(more); e != api.ErrOff {
					t.Fatalf("%s: Commit with a second fall: %d", b.name, e)
				}
				d.Up()
				known(t, stoodUp(t, d), m, more)
			}
		}
	}
}

func stoodUp(t *testing.T, d *dev.Dev) *rec.Store {
	t.Helper()
	s, e := rec.Open(d)
	if e != api.OK {
		t.Fatalf("Open behind a fall: %d", e)
	}
	return s
}

// known holds that a store has the records ahead of a commit, or behind it, and tells which.
func known(t *testing.T, s *rec.Store, m *model, l []api.Change) *model {
	t.Helper()
	after := m.copy()
	after.commit(l)
	if isSame(s, after.all) && s.Round() == after.turn {
		// Changes that change nothing tell by what comes next alone.
		if !maps.Equal(m.all, after.all) || m.turn != after.turn {
			return after
		}
	}
	is(t, s, m.all, m.turn)
	if t.Failed() {
		t.FailNow()
	}
	return m
}

func isSame(s *rec.Store, all map[uint64]string) bool {
	got := map[uint64]string{}
	for _, id := range s.IDs() {
		got[id], _ = s.Get(id)
	}
	return maps.Equal(got, all)
}

// TestFallBetween: between commits nothing is lost, and a store that told no ErrOff goes on.
func TestFallBetween(t *testing.T) {
	for _, b := range befores(t, 23) {
		d, m := b.d.Copy(), b.m.copy()
		s := opens(t, d, m)
		for i, keep := range keeps(false) {
			d.Crash(keep, i)
			if s.Dead() {
				t.Errorf("%s: stands still", b.name)
			}
			d.Up()
			commits(t, d, s, m, []api.Change{put(uint64(i), text(i, 20))})
			opens(t, d, m)
		}
	}
}

// TestFallsUntilDone: a commit that is tried again by one store that stood up after another is done once.
func TestFallsUntilDone(t *testing.T) {
	for _, keep := range []uint64{0, 2, math.MaxUint64} {
		d, s, m := fresh(t, 23)
		for i := range 30 {
			l := []api.Change{put(uint64(i%5), text(i, 40)), gone(uint64(i % 3))}
			steps, _ := m.commit(l)
			var falls []api.Fall
			for k := range steps {
				falls = append(falls, api.Fall{At: d.Steps() + k, Keep: keep, Torn: 30})
			}
			d.Plan(falls)
			for s.Commit(l) != api.OK {
				d.Up()
				s = stoodUp(t, d)
				if isSame(s, m.all) && s.Round() == m.turn {
					break
				}
			}
			d.Plan(nil)
			s = stoodUp(t, d)
			is(t, s, m.all, s.Round())
			if t.Failed() {
				t.FailNow()
			}
			m.turn = s.Round()
		}
	}
}
