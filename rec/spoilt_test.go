package rec_test

import (
	"math"
	"slices"
	"strings"
	"testing"

	"offshoot/api"
)

// wrongImages has bytes that are no image's.
func wrongImages() map[string]string {
	one, two := api.Body{ID: 1, S: text(1, 498)}, api.Body{ID: 2, S: text(2, 498)}
	small, smaller := api.Body{ID: 3, S: "three"}, api.Body{ID: 4}
	page := pageOf([]api.Body{small})
	first := eight(1)
	return map[string]string{
		"no bytes":                           "",
		"seven bytes":                        first[:7],
		"a byte behind":                      first + "\x00",
		"a page that is cut":                 first + page[:511],
		"a page with a tail":                 first + page + "\x00",
		"a second page that is cut":          first + pageOf([]api.Body{one}) + pageOf([]api.Body{two})[:100],
		"a first entry of the number 0":      eight(0) + page,
		"no records, and of the number 0":    eight(0),
		"a page of noughts":                  first + strings.Repeat("\x00", 512),
		"a page that is another text":        first + text(1, 512),
		"a page with a byte between":         first + strings.Replace(page, "\x00\x00three", "\x00\x01three", 1),
		"a second page of another form":      first + page + text(1, 512),
		"an empty page behind":               first + page + pageOf(nil),
		"an empty page ahead":                first + pageOf(nil) + page,
		"two pages that need not be two":     first + page + pageOf([]api.Body{smaller}),
		"two pages by turns":                 first + pageOf([]api.Body{two}) + pageOf([]api.Body{one}),
		"one record in two pages":            first + pageOf([]api.Body{one}) + pageOf([]api.Body{one}),
		"one number in two pages":            first + pageOf([]api.Body{one}) + pageOf([]api.Body{{ID: 1, S: text(3, 498)}}),
		"a record behind its page":           first + pageOf([]api.Body{{ID: 1, S: text(1, 400)}}) + pageOf([]api.Body{{ID: 2, S: text(1, 400)}, {ID: 3}}),
		"a record that stands in a gap":      first + pageOf([]api.Body{{ID: 1, S: text(1, 400)}}) + pageOf([]api.Body{{ID: 2, S: text(1, 400)}, {ID: 5, S: text(1, 50)}}),
		"a lower record that is in a gap":    first + pageOf([]api.Body{{ID: 2, S: text(1, 300)}, {ID: 9}}) + pageOf([]api.Body{{ID: 1, S: text(1, 400)}}),
		"another image's bytes as a page":    first + (first + page)[:512],
		"a page of the place of its number":  page,
		"a number, and then another's bytes": first + first + page,
	}
}

// TestSpoiltImage: bytes of another form in the image that counts, wherever it stands.
func TestSpoiltImage(t *testing.T) {
	for name, bytes := range wrongImages() {
		for _, at := range []int{0, 16} {
			t.Run(name, func(t *testing.T) {
				d := placed(t, 40, at, 5, bytes, 1)
				opensNot(t, d, api.ErrSpoilt)
				d.Crash(0, 0)
				opensNot(t, d, api.ErrOff)
			})
		}
	}
}

// image is what an image is to be, for a device that is made of such.
type image struct {
	turn  uint64
	first uint64
	all   map[uint64]string
}

func (m *model) place(at int, x image) {
	m.lay(at, at+m.part, sectors(x.turn, eight(x.first)+pagesOf(x.all)))
}

// TestGreaterTurn: of two images the one with the greater turn counts, whichever place it stands in; the next one is laid in the other place.
func TestGreaterTurn(t *testing.T) {
	elder := image{7, 20, map[uint64]string{1: "elder", 2: "two"}}
	for _, turn := range []uint64{8, 9, 255, 256, 1 << 32, math.MaxUint64} {
		later := image{turn, 30, map[uint64]string{1: "later", 3: text(1, 300), 4: text(4, 400)}}
		for _, front := range []bool{true, false} {
			m := newModel(40)
			m.all, m.turn, m.next = later.all, later.turn, later.first
			where, other := 0, m.part
			if !front {
				where, other = other, where
			}
			m.place(where, later)
			m.place(other, elder)
			d := of(t, m.l)
			s := opens(t, d, m)
			does(t, d, s, m, put(9, "nine"))
			s = opens(t, d, m)
			if turn == math.MaxUint64 {
				continue
			}
			for s.Round() == turn {
				if e := s.Commit(nil); e != api.OK {
					t.Fatal(e)
				}
			}
			head, _ := d.Read(other)
			if s.Round() != turn+1 || head[:8] != eight(turn+1) {
				t.Errorf("behind turn %d at %d: turn %d, in the other place %q", turn, where, s.Round(), head)
			}
			is(t, s, m.all, turn+1)
		}
	}
}

// TestOtherImage: the image that doesn't count may be of any form.
func TestOtherImage(t *testing.T) {
	for name, bytes := range wrongImages() {
		for _, at := range []int{0, 16} {
			t.Run(name, func(t *testing.T) {
				m := newModel(40)
				m.all, m.turn, m.next = map[uint64]string{1: "one"}, 6, 9
				m.lay(at, at+m.part, sectors(5, bytes))
				m.place(m.part-at, image{6, 9, m.all})
				d := of(t, m.l)
				s := opens(t, d, m)
				does(t, d, s, m, put(2, "two"))
				opens(t, d, m)
			})
		}
	}
}

// TestNoImage: what is no entry in an image's place, and what stands behind one, is no image.
func TestNoImage(t *testing.T) {
	good := eight(1) + pagesOf(map[uint64]string{1: "one"})
	for name, l := range map[string][]string{
		"noughts":             {noughts},
		"the number 0":        sectors(0, good),
		"numbers that differ": append([]string{eight(5) + sectors(6, good)[0][8:]}, sectors(5, good)[1:]...),
		"the last byte":       append([]string{sectors(5, good)[0][:127] + "\x04"}, sectors(5, good)[1:]...),
		"more than may be":    {eight(5) + eight(16*128-24+1) + noughts[:104] + eight(5)},
		"far more":            {eight(5) + eight(math.MaxUint64) + noughts[:104] + eight(5)},
		"another text":        {text(1, 128)},
	} {
		for _, at := range []int{0, 16} {
			t.Run(name, func(t *testing.T) {
				m := newModel(40)
				copy(m.l[at:], l)
				d := of(t, m.l)
				s := opens(t, d, m)
				does(t, d, s, m, put(2, "two"))
				opens(t, d, m)
			})
			t.Run(name+", and an image", func(t *testing.T) {
				m := newModel(40)
				m.all, m.turn, m.next = map[uint64]string{1: "one"}, 4, 9
				copy(m.l[at:], l)
				m.place(m.part-at, image{4, 9, m.all})
				opens(t, of(t, m.l), m)
			})
		}
	}
	// Entries behind an image in its place are none of its own.
	m := newModel(40)
	m.all, m.turn, m.next = map[uint64]string{1: "one"}, 5, 1
	l := sectors(5, good)
	m.lay(0, m.part, l)
	m.lay(len(l), m.part, sectors(6, eight(1)+pagesOf(map[uint64]string{2: "two"})))
	d := of(t, m.l)
	s := opens(t, d, m)
	for range 9 {
		commits(t, d, s, m, nil)
	}
}

// TestSpoiltEntry: an entry of the log that is no batch, among others.
func TestSpoiltEntry(t *testing.T) {
	good := batch([]api.Change{put(1, "one")})
	for name, s := range map[string]string{
		"no bytes":             "",
		"one byte":             "\x00",
		"a byte behind":        good + "\x00",
		"a byte that is cut":   good[:len(good)-1],
		"a record too long":    two(1) + eight(1) + two(499) + text(1, 499),
		"more changes told":    "\x00\x02" + good[2:],
		"fewer changes told":   "\x00\x00" + good[2:],
		"a length of its own":  two(1) + eight(1) + "\xff\xfe",
		"one that has a tail":  two(1) + eight(1) + "\xff\xff" + "x",
		"two that are one":     good + good,
		"noughts of a sector":  noughts,
		"a count of noughts":   "\x00\x00\x00",
		"an entry's own bytes": sectors(1, good)[0],
	} {
		for _, at := range []int{-1, 0, 16} {
			for ahead := range 3 {
				t.Run(name, func(t *testing.T) {
					m := newModel(40)
					next := uint64(1)
					if at >= 0 {
						next = 77
						m.place(at, image{3, next, map[uint64]string{5: "five"}})
					}
					where := 2 * m.part
					for i, s := range append(slices.Repeat([]string{good}, ahead), s, good) {
						l := sectors(next+uint64(i), s)
						if where+len(l) > 40 {
							break
						}
						m.lay(where, 40, l)
						where += len(l)
					}
					opensNot(t, of(t, m.l), api.ErrSpoilt)
				})
			}
		}
	}
}

// TestAnyCount: a batch of the log is of the form whatever it says; so is one with more changes than a commit may have.
func TestAnyCount(t *testing.T) {
	m := newModel(2000)
	var l []api.Change
	for i := range 3500 {
		l = append(l, gone(uint64(i)))
	}
	m.lay(2*m.part, m.n, sectors(1, batch([]api.Change{put(5, "five"), put(3500, "kept")})))
	m.lay(2*m.part+1, m.n, sectors(2, batch(l)))
	m.all[3500] = "kept"
	opens(t, of(t, m.l), m)
}

// TestLogOfImage: the log begins with the number that the image tells; what stands there of another one is none of it.
func TestLogOfImage(t *testing.T) {
	for _, c := range []struct {
		number uint64
		is     bool
	}{{76, false}, {77, true}, {78, false}, {1, false}} {
		m := newModel(40)
		m.all, m.turn = map[uint64]string{5: "five"}, 3
		m.place(0, image{3, 77, m.all})
		m.lay(2*m.part, 40, sectors(c.number, batch([]api.Change{put(6, "six")})))
		d := of(t, m.l)
		if c.is {
			m.all = map[uint64]string{5: "five", 6: "six"}
		}
		opens(t, d, m)
	}
}
