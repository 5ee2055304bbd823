package log_test

import (
	"math/rand"
	"slices"
	"testing"

	"offshoot/api"
	"offshoot/log"
)

// TestModel: whatever comes, by fixed seeds, the entries are those that were added since the log began anew, and perhaps one that failed.
func TestModel(t *testing.T) {
	for seed := range 300 {
		r := rand.New(rand.NewSource(int64(seed)))
		size := 1 + r.Intn(20)
		d := blank(t, size+2)
		next := 1 + uint64(r.Intn(300))
		g := opens(t, d, 1, 1+size, next)
		var want []string
		room := size
		for i := range 200 {
			switch k := r.Intn(20); {
			case k == 0:
				g.Reset()
				next, want, room = next+uint64(len(want)), nil, size
			case k < 4:
				g = opens(t, d, 1, 1+size, next, want...)
			default:
				n := r.Intn(400)
				s := text(i, n)
				if n > 200 {
					s = sectors(next+uint64(r.Intn(9)), s)[0] + sectors(next+uint64(r.Intn(9)), s)[0]
				}
				need := len(sectors(1, s))
				if r.Intn(4) == 0 {
					d.Plan([]api.Fall{{At: d.Steps() + r.Intn(8), Keep: r.Uint64(), Torn: r.Intn(140) - 5}})
				}
				e := g.Add(s)
				d.Plan(nil)
				switch {
				case need > room && e == api.ErrFull:
				case need <= room && e == api.OK:
					want, room = append(want, s), room-need
				case need <= room && e == api.ErrOff && d.Up():
					_, got, _ := log.Open(d, 1, 1+size, next)
					want, room = came(t, got, want, s, room)
					g = opens(t, d, 1, 1+size, next, want...)
				default:
					t.Fatalf("seed %d: Add of %d bytes, room for %d: %d", seed, n, room, e)
				}
			}
			is(t, g, next+uint64(len(want)), room)
			if t.Failed() {
				t.Fatalf("seed %d", seed)
			}
		}
		opens(t, d, 1, 1+size, next, want...)
	}
}

// came is the entries and the room behind a fall, by what is read: with the one that failed, whole, or without it.
func came(t *testing.T, got, want []string, s string, room int) ([]string, int) {
	t.Helper()
	with := append(slices.Clone(want), s)
	switch {
	case slices.Equal(got, want):
		return want, room
	case slices.Equal(got, with):
		return with, room - len(sectors(1, s))
	}
	t.Fatalf("behind a fall: %q, were %q", got, want)
	return nil, 0
}
