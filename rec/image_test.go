package rec_test

import (
	"math"
	"math/rand"
	"testing"

	"offshoot/api"
	"offshoot/dev"
	"offshoot/rec"
)

// sectorIs holds that a sector has these bytes, and noughts behind them as far as its body goes.
func sectorIs(t *testing.T, d *dev.Dev, at int, want string) {
	t.Helper()
	if s, _ := d.Read(at); s != want {
		t.Errorf("sector %d is %q, must be %q", at, s, want)
	}
}

// TestPlaces: by hand, where images and the log stand, their turns, and the numbers of the log's first entries.
func TestPlaces(t *testing.T) {
	for _, c := range []struct{ n, part int }{{16, 6}, {17, 6}, {18, 7}, {19, 7}, {20, 8}, {21, 8}, {22, 8}, {23, 9}, {24, 9}, {25, 10}} {
		d := device(t, c.n)
		s, _ := rec.Open(d)
		number, turn := uint64(1), uint64(0)
		for range 4 {
			for at := 2 * c.part; at < c.n; at++ {
				if e := s.Commit(nil); e != api.OK || s.Round() != turn {
					t.Fatalf("%d sectors: Commit: %d, turn %d", c.n, e, s.Round())
				}
				sectorIs(t, d, at, sectors(number, "\x00\x00")[0])
				number++
			}
			turn++
			if e := s.Commit(nil); e != api.OK || s.Round() != turn {
				t.Fatalf("%d sectors: Commit: %d, turn %d, must be %d", c.n, e, s.Round(), turn)
			}
			number++
			at := 0
			if turn%2 == 0 {
				at = c.part
			}
			sectorIs(t, d, at, sectors(turn, eight(number))[0])
		}
	}
}

// TestFull: a log that is just full, by entries of all lengths; with one byte more the image is laid.
func TestFull(t *testing.T) {
	// The log of 17 sectors has 5: of one entry 104 + 4*128 bytes, 22 of them no record's.
	const most = 104 + 4*128 - 22
	for _, c := range []struct {
		size  int
		round uint64
	}{{most - 1, 0}, {most, 0}, {most + 1, 1}} {
		d, s, m := fresh(t, 17)
		does(t, d, s, m, put(1, text(1, c.size-498)), put(1, text(2, 498)))
		if s.Round() != c.round {
			t.Errorf("records of %d bytes: turn %d", c.size, s.Round())
		}
		opens(t, d, m)
	}
	// Behind an entry that leaves nothing, the emptiest one finds no room.
	d, s, m := fresh(t, 17)
	does(t, d, s, m, put(1, text(1, 498)))
	if s.Round() != 0 || m.at != 17 {
		t.Errorf("turn %d, the log is at %d", s.Round(), m.at)
	}
	does(t, d, s, m)
	if s.Round() != 1 {
		t.Errorf("turn %d", s.Round())
	}
	opens(t, d, m)
}

// TestNoLog: changes that no log has room for go by images alone, each with a number of its own for the log.
func TestNoLog(t *testing.T) {
	d, s, m := fresh(t, 16)
	for i := range uint64(6) {
		does(t, d, s, m, put(1, text(int(i), 480)), put(1, text(int(i), 490)))
		if s.Round() != i+1 {
			t.Errorf("turn %d, must be %d", s.Round(), i+1)
		}
		sectorIs(t, d, int(i%2)*6, sectors(i+1, eight(i+2)+pagesOf(m.all))[0])
		opens(t, d, m)
	}
	does(t, d, s, m, put(2, "two"))
	sectorIs(t, d, 12, sectors(7, batch([]api.Change{put(2, "two")}))[0])
}

// TestFirstFit: each record stands in the first page that has room for it, by their numbers, whatever order they came in.
func TestFirstFit(t *testing.T) {
	for _, sizes := range [][]int{
		{498, 498, 498},
		{498, 0, 498, 0},
		{400, 400, 86, 86, 0},
		{400, 400, 87, 85, 99, 98, 1, 0},
		{300, 300, 300, 100, 100, 100, 74, 75, 50, 50, 49, 0, 0, 0, 0},
		{486, 0, 485, 1, 487, 0},
		{250, 200, 36, 250, 200, 24, 12, 13, 0},
	} {
		for _, turned := range []bool{false, true} {
			d, s, m := fresh(t, 100)
			l := puts(1, sizes...)
			for i := range l {
				if turned {
					l[i].ID = 1000 - l[i].ID
				}
				does(t, d, s, m, l[i])
			}
			for s.Round() == 0 {
				does(t, d, s, m)
			}
			opens(t, d, m)
		}
	}
}

// TestFirstFitOfMany: likewise for records of all lengths, by fixed seeds.
func TestFirstFitOfMany(t *testing.T) {
	for seed := range 40 {
		r := rand.New(rand.NewSource(int64(seed)))
		most := 1 + r.Intn(499)
		d, s, m := fresh(t, 400)
		for s.Round() < 2 {
			var l []api.Change
			for range 1 + r.Intn(30) {
				l = append(l, put(uint64(r.Intn(150)), text(r.Intn(99), r.Intn(most))))
			}
			for range r.Intn(5) {
				l = append(l, gone(uint64(r.Intn(150))))
			}
			commits(t, d, s, m, l)
		}
		opens(t, d, m)
	}
}

// full is a store whose log has no room for anything.
func full(t *testing.T, n int) (*dev.Dev, *rec.Store, *model) {
	t.Helper()
	d, s, m := fresh(t, n)
	for m.at < n {
		does(t, d, s, m)
	}
	return d, s, m
}

// TestLastByte: records that fill an image's only page to the last byte; and a byte or a record more, for which there is no room.
func TestLastByte(t *testing.T) {
	for _, c := range []struct{ fits, not []int }{
		{[]int{498}, []int{498, 0}},
		{[]int{243, 243}, []int{243, 244}},
		{[]int{0, 486}, []int{1, 486}},
		{[]int{0, 486}, []int{0, 487}},
		{[]int{100, 100, 100, 100, 50}, []int{100, 100, 100, 100, 51}},
		{append(make([]int, 41), 6), append(make([]int, 41), 7)},
		{make([]int, 42), make([]int, 43)},
	} {
		d, s, m := full(t, 16)
		refuses(t, d, s, m, api.ErrFull, puts(1, c.not...)...)
		does(t, d, s, m, puts(1, c.fits...)...)
		if s.Round() != 1 {
			t.Errorf("turn %d", s.Round())
		}
		opens(t, d, m)
	}
}

// TestLastPage: by devices' lengths, as many pages as an image has room for, and one more.
func TestLastPage(t *testing.T) {
	for n := 16; n < 90; n++ {
		part := n * 2 / 5
		pages := ((part-1)*128 + 104 - 8) / 512
		d, s, m := full(t, n)
		var l []api.Change
		for i := range pages {
			l = append(l, put(uint64(i), text(i, 498)))
		}
		refuses(t, d, s, m, api.ErrFull, append(l, put(1000, ""))...)
		does(t, d, s, m, l...)
		if s.Round() != 1 {
			t.Errorf("%d sectors: turn %d", n, s.Round())
		}
		opens(t, d, m)
		for m.at < n {
			does(t, d, s, m)
		}
		// Of the same length again, in the other place.
		does(t, d, s, m, put(0, text(99, 498)))
		opens(t, d, m)
	}
}

// TestFullGoesOn: where neither log nor image has room for some changes, less is still done.
func TestFullGoesOn(t *testing.T) {
	d, s, m := fresh(t, 16)
	does(t, d, s, m, put(1, text(1, 400)))
	for i := range 20 {
		refuses(t, d, s, m, api.ErrFull, put(uint64(2+i), text(i, 498)))
		opens(t, d, m)
		does(t, d, s, m, put(1, text(i, 401)))
		refuses(t, d, s, m, api.ErrFull, put(1, text(3, 300)), put(2, text(3, 300)), put(3, ""))
		s = opens(t, d, m)
	}
}

// TestLogAheadOfImage: what the log has room for is done, though no image has room for it; then it goes no further, until less is kept.
func TestLogAheadOfImage(t *testing.T) {
	d, s, m := fresh(t, 16)
	for i := range uint64(4) {
		does(t, d, s, m, puts(100*i, make([]int, 8)...)...)
	}
	does(t, d, s, m, puts(1000, make([]int, 10)...)...)
	if s.Round() != 1 || len(s.IDs()) != 42 {
		t.Errorf("turn %d, %d records", s.Round(), len(s.IDs()))
	}
	for i := range uint64(4) {
		does(t, d, s, m, puts(2000+100*i, make([]int, 8)...)...)
	}
	s = opens(t, d, m)
	refuses(t, d, s, m, api.ErrFull)
	refuses(t, d, s, m, api.ErrFull, put(1000, "x"))
	refuses(t, d, s, m, api.ErrFull, takes(s.IDs()[:31])...)
	does(t, d, s, m, takes(s.IDs()[:32])...)
	if s.Round() != 2 || len(s.IDs()) != 42 {
		t.Errorf("turn %d, %d records", s.Round(), len(s.IDs()))
	}
	opens(t, d, m)
}

func takes(ids []uint64) []api.Change {
	var l []api.Change
	for _, id := range ids {
		l = append(l, gone(id))
	}
	return l
}

// TestManyImages: a store goes on over many images, that grow and shrink.
func TestManyImages(t *testing.T) {
	d, s, m := fresh(t, 33)
	for i := 0; s.Round() < 600; i++ {
		size := (i / 40 % 7) * 60
		commits(t, d, s, m, []api.Change{put(uint64(i%6), text(i, size)), gone(uint64(i % 5))})
		if i%50 == 0 {
			s = opens(t, d, m)
		}
	}
	opens(t, d, m)
}

// placed is a device of an image in a place, and a log of entries.
func placed(t *testing.T, n, at int, turn uint64, bytes string, number uint64, entries ...string) *dev.Dev {
	t.Helper()
	m := newModel(n)
	m.lay(at, at+m.part, sectors(turn, bytes))
	where := 2 * m.part
	for i, s := range entries {
		l := sectors(number+uint64(i), s)
		m.lay(where, n, l)
		where += len(l)
	}
	return of(t, m.l)
}

// TestLastNumbers: behind the last number of an entry, or of a turn, there is no room.
func TestLastNumbers(t *testing.T) {
	all := map[uint64]string{5: "five"}
	for _, c := range []struct {
		turn, first uint64
		entries     int // that find room, in the log or in an image
	}{
		{1, math.MaxUint64, 1},
		{1, math.MaxUint64 - 1, 2},
		{1, math.MaxUint64 - 3, 4},
		{1, math.MaxUint64 - 4, 4},
		{1, math.MaxUint64 - 5, 6}, // four, an image, and one
		{1, math.MaxUint64 - 6, 7},
		{math.MaxUint64, 1, 4},
		{math.MaxUint64 - 1, 1, 9},
		{math.MaxUint64 - 2, 1, 14},
	} {
		d := placed(t, 16, 0, c.turn, eight(c.first)+pagesOf(all), c.first)
		s, e := rec.Open(d)
		if e != api.OK {
			t.Fatalf("Open: %d", e)
		}
		for i := range c.entries {
			if e := s.Commit([]api.Change{put(uint64(i), "")}); e != api.OK {
				t.Fatalf("turn %d, first %d: commit %d: %d", c.turn, c.first, i, e)
			}
		}
		steps, round, ids := d.Steps(), s.Round(), len(s.IDs())
		for range 3 {
			if e := s.Commit([]api.Change{put(99, "")}); e != api.ErrFull {
				t.Errorf("turn %d, first %d: behind all: %d", c.turn, c.first, e)
			}
			if d.Steps() != steps || s.Round() != round || len(s.IDs()) != ids || s.Dead() {
				t.Errorf("turn %d, first %d: something was changed", c.turn, c.first)
			}
			s, _ = rec.Open(d)
		}
	}
}
