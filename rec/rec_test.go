package rec_test

import (
	"math"
	"slices"
	"testing"
	"unsafe"

	"offshoot/api"
	"offshoot/dev"
	"offshoot/rec"
)

// TestExample: Commit, a fall, Open: the records are there.
func TestExample(t *testing.T) {
	d, s, m := fresh(t, 16)
	does(t, d, s, m, put(1, "one"), put(2, "two"))
	d.Crash(0, 0)
	d.Up()
	opens(t, d, m)
}

func opensNot(t *testing.T, d *dev.Dev, want api.Errno) {
	t.Helper()
	steps := d.Steps()
	if s, e := rec.Open(d); s != nil || e != want {
		t.Errorf("Open: %v, %d; must be %d", s, e, want)
	}
	if d.Steps() != steps {
		t.Errorf("Open took %d steps", d.Steps()-steps)
	}
}

func TestOpen(t *testing.T) {
	opensNot(t, nil, api.ErrUse)
	for n := range 16 {
		d := device(t, n)
		opensNot(t, d, api.ErrUse)
		d.Crash(0, 0)
		opensNot(t, d, api.ErrUse)
	}
	for _, n := range []int{16, 17, 18, 19, 20, 2000, 65536} {
		d := device(t, n)
		opens(t, d, newModel(n))
		d.Crash(0, 0)
		opensNot(t, d, api.ErrOff)
		d.Up()
		opens(t, d, newModel(n))
	}
}

// TestOpenAnew: a store that is opened anew at any time has the same records, and goes on alike.
func TestOpenAnew(t *testing.T) {
	d, s, m := fresh(t, 23)
	for i := range 60 {
		commits(t, d, s, m, puts(uint64(i%7), i*17%200))
		opens(t, d, m)
		if i%3 == 0 {
			s = opens(t, d, m)
		}
	}
	if s.Round() < 5 {
		t.Errorf("only %d images", s.Round())
	}
}

// TestRecords: what is laid, laid over, and taken away.
func TestRecords(t *testing.T) {
	d, s, m := fresh(t, 100)
	does(t, d, s, m, put(5, "five"), put(3, "three"))
	does(t, d, s, m, put(5, "another"), put(4, ""))
	does(t, d, s, m, gone(3), gone(9))
	does(t, d, s, m, put(3, "once more"))
	does(t, d, s, m)
	does(t, d, s, m, []api.Change{}...)
	does(t, d, s, m, gone(3), gone(4), gone(5))
	opens(t, d, m)
	if len(m.all) != 0 || len(s.IDs()) != 0 {
		t.Errorf("there are still %v", m.all)
	}
}

// TestNumbers: records' numbers at the ends of uint64, and where their bytes turn over.
func TestNumbers(t *testing.T) {
	l := []uint64{0, 1, 255, 256, 1<<16 - 1, 1 << 16, 1<<32 - 1, 1 << 32, 1<<63 - 1, 1 << 63, math.MaxUint64 - 1, math.MaxUint64}
	d, s, m := fresh(t, 40)
	for round := range 6 {
		for i := range l {
			id := l[len(l)-1-i]
			does(t, d, s, m, put(id, text(int(id%1000)+round, 20)))
		}
		if got := s.IDs(); !slices.Equal(got, l) {
			t.Errorf("numbers %d, must be %d", got, l)
		}
	}
	if s.Round() == 0 {
		t.Error("no image was laid")
	}
	s = opens(t, d, m)
	for _, id := range l {
		does(t, d, s, m, gone(id))
	}
	opens(t, d, m)
}

// TestLastCounts: of several changes of one record in one commit, in the log and in an image.
func TestLastCounts(t *testing.T) {
	lists := [][]api.Change{
		{put(1, "a"), put(1, "b")},
		{put(1, "b"), put(1, "a"), put(1, "")},
		{put(1, "a"), gone(1)},
		{gone(1), put(1, "a")},
		{put(1, "a"), gone(1), put(1, "b")},
		{gone(1), put(1, "a"), gone(1)},
		{gone(1), gone(1)},
		{put(1, "a"), put(2, "x"), gone(2), put(1, "b"), put(2, "y"), gone(1), put(3, "z")},
	}
	for _, ahead := range [][]api.Change{nil, {put(1, "was"), put(2, "there")}} {
		for _, l := range lists {
			d, s, m := fresh(t, 16)
			does(t, d, s, m, ahead...)
			does(t, d, s, m, l...)
			opens(t, d, m)
			for s.Round() < 2 {
				does(t, d, s, m, l...)
				opens(t, d, m)
			}
		}
	}
}

// TestLengths: records without bytes, as long as may be, and one byte longer.
func TestLengths(t *testing.T) {
	d, s, m := fresh(t, 60)
	for i, n := range []int{0, 1, 81, 82, 83, 103, 104, 105, 255, 256, 257, 497, 498} {
		does(t, d, s, m, put(7, text(i, n)))
		opens(t, d, m)
	}
	for _, n := range []int{499, 500, 512, 65534, 65535, 65536, 200000} {
		refuses(t, d, s, m, api.ErrMost, put(8, text(1, n)))
		refuses(t, d, s, m, api.ErrMost, put(9, "a"), put(8, text(1, n)), put(7, ""))
		refuses(t, d, s, m, api.ErrMost, put(8, text(1, n)), put(8, ""))
	}
	opens(t, d, m)
}

// TestMostChanges: as many changes as may be, and one more; in the log, and in an image.
func TestMostChanges(t *testing.T) {
	for _, n := range []int{2000, 600} {
		d, s, m := fresh(t, n)
		l := make([]api.Change, 3001)
		for i := range l {
			l[i] = put(uint64(i), "")
			if i%3 > 0 {
				l[i].Gone = true
			}
		}
		refuses(t, d, s, m, api.ErrMost, l...)
		does(t, d, s, m, l[:3000]...)
		does(t, d, s, m, l[1:]...)
		opens(t, d, m)
	}
}

// TestGreatest: the greatest device takes the greatest batches.
func TestGreatest(t *testing.T) {
	d, s, m := fresh(t, 65536)
	for i := range 4 {
		var l []api.Change
		for k := range 3000 {
			l = append(l, put(uint64(i*1000+k), text(k, 498)))
		}
		does(t, d, s, m, l...)
	}
	if s.Round() != 2 {
		t.Errorf("turn %d", s.Round())
	}
	opens(t, d, m)
}

// TestCommitErrors: each is told ahead of those that are named behind it, change by change, and nothing is changed.
func TestCommitErrors(t *testing.T) {
	d, s, m := fresh(t, 16)
	does(t, d, s, m, put(1, "one"))
	bad, long := api.Change{ID: 1, S: "x", Gone: true}, put(1, text(1, 499))
	refuses(t, d, s, m, api.ErrUse, bad)
	refuses(t, d, s, m, api.ErrUse, put(2, ""), gone(1), bad, long)
	refuses(t, d, s, m, api.ErrMost, long, bad)
	refuses(t, d, s, m, api.ErrUse, bad, long)
	refuses(t, d, s, m, api.ErrUse, api.Change{ID: 1, S: text(1, 499), Gone: true})
	refuses(t, d, s, m, api.ErrMost, slices.Repeat([]api.Change{bad}, 3001)...)
	// More than there is room for, too.
	wide := puts(1, slices.Repeat([]int{498}, 40)...)
	refuses(t, d, s, m, api.ErrFull, wide...)
	refuses(t, d, s, m, api.ErrUse, append(wide, bad)...)
	refuses(t, d, s, m, api.ErrMost, append(wide, long)...)
	refuses(t, d, s, m, api.ErrMost, append(slices.Repeat([]api.Change{gone(1)}, 3000), bad)...)
	does(t, d, s, m, put(2, "two"))
	opens(t, d, m)
	d.Crash(0, 0)
	for _, l := range [][]api.Change{nil, {put(1, "")}, {bad}, {long}, wide, slices.Repeat([]api.Change{bad}, 3001)} {
		d, s, m := fresh(t, 16)
		d.Crash(0, 0)
		isOff(t, d, s, m, l)
	}
}

// isOff holds that a store answers ErrOff, stands still from then on, and still has its records.
func isOff(t *testing.T, d *dev.Dev, s *rec.Store, m *model, l []api.Change) {
	t.Helper()
	if e := s.Commit(l); e != api.ErrOff {
		t.Errorf("Commit of %d changes without power: %d", len(l), e)
	}
	d.Up()
	d.Plan(nil)
	steps := d.Steps()
	for _, l := range [][]api.Change{l, nil, {put(1, "")}, {{ID: 1, S: "x", Gone: true}}, {put(1, text(1, 499))}, slices.Repeat([]api.Change{gone(1)}, 3001)} {
		if e := s.Commit(l); e != api.ErrOff {
			t.Errorf("Commit of %d changes behind ErrOff: %d", len(l), e)
		}
	}
	if d.Steps() != steps {
		t.Error("one that stands still took steps")
	}
	if !s.Dead() {
		t.Error("it doesn't stand still")
	}
	is(t, s, m.all, m.turn)
}

// TestDead: a store stands still behind an ErrOff that it told, and only then.
func TestDead(t *testing.T) {
	d, s, m := fresh(t, 16)
	does(t, d, s, m, put(1, "one"))
	d.Crash(0, 0)
	if s.Dead() {
		t.Error("it stands still ahead of any ErrOff")
	}
	is(t, s, m.all, m.turn)
	d.Up()
	does(t, d, s, m, put(2, "two"))
	d.Crash(math.MaxUint64, 128)
	isOff(t, d, s, m, []api.Change{put(3, "three")})
	s = opens(t, d, m)
	if s.Dead() {
		t.Error("a new one stands still")
	}
	does(t, d, s, m, put(3, "three"))
}

// TestDeadImage: likewise, by a fall while an image is laid.
func TestDeadImage(t *testing.T) {
	d, s, m := fresh(t, 16)
	for range 4 {
		does(t, d, s, m, put(1, "one"))
	}
	d.Plan([]api.Fall{{At: d.Steps() + 2}})
	isOff(t, d, s, m, []api.Change{put(2, "two")})
	s = opens(t, d, m)
	does(t, d, s, m, put(2, "two"))
	if s.Round() != 1 {
		t.Errorf("turn %d", s.Round())
	}
}

// kept is what was handed out at a time.
type kept struct {
	get  func(uint64) (string, bool)
	all  map[uint64]string
	ids  []uint64
	want []uint64
}

// TestSnap: what was handed out ahead of later commits, images and falls stays as it was.
func TestSnap(t *testing.T) {
	d, s, m := fresh(t, 30)
	var l []kept
	for i := range 80 {
		l = append(l, kept{s.Snap(), m.copy().all, s.IDs(), s.IDs()})
		if i%4 == 0 { // two at one time
			l = append(l, kept{s.Snap(), m.copy().all, s.IDs(), s.IDs()})
		}
		switch {
		case i%9 == 8:
			commits(t, d, s, m, []api.Change{{Gone: true, S: "x"}})
		case i%10 == 7:
			commits(t, d, s, m, puts(100, slices.Repeat([]int{498}, 40)...))
		case i%5 == 4:
			commits(t, d, s, m, []api.Change{gone(uint64(i % 3)), gone(uint64(i % 11))})
		default:
			commits(t, d, s, m, puts(uint64(i%11), i%50, i*7%90))
		}
		if i%3 == 0 {
			commits(t, d, s, m, puts(uint64(i%5), i)) // no getter came between
		}
		for _, k := range l {
			has(t, k.get, k.all)
			if !slices.Equal(k.ids, k.want) {
				t.Fatalf("numbers %d, were %d", k.ids, k.want)
			}
		}
	}
	if s.Round() < 3 {
		t.Errorf("only %d images", s.Round())
	}
	d.Crash(0, 0)
	isOff(t, d, s, m, nil)
	for _, k := range l {
		has(t, k.get, k.all)
	}
}

// TestOwn: what is handed in may be changed later, and what is answered, too.
func TestOwn(t *testing.T) {
	d, s, m := fresh(t, 16)
	for range 6 { // in the log, and in an image
		b := []byte("bytes that change")
		l := []api.Change{put(1, unsafe.String(&b[0], len(b))), put(2, "two"), gone(3)}
		want := slices.Clone(l)
		if e := s.Commit(l); e != api.OK {
			t.Fatal(e)
		}
		if !slices.Equal(l, want) {
			t.Errorf("the changes are %v", l)
		}
		m.commit([]api.Change{put(1, "bytes that change"), put(2, "two"), gone(3)})
		for i := range b {
			b[i] = 'x'
		}
		l[1], l[2] = gone(1), gone(2)
		is(t, s, m.all, m.turn)
		stands(t, d, m)
		s.IDs()[0] = 77
		is(t, s, m.all, m.turn)
	}
	if s.Round() != 1 {
		t.Errorf("turn %d", s.Round())
	}
	snap := s.Snap()
	for _, get := range []func(uint64) (string, bool){s.Get, snap} {
		a, _ := get(1)
		b, _ := get(1)
		if unsafe.StringData(a) == unsafe.StringData(b) {
			t.Error("two answers share their bytes")
		}
	}
}

// TestNone: a nil store and one that nobody opened.
func TestNone(t *testing.T) {
	for _, s := range []*rec.Store{nil, {}} {
		is(t, s, nil, 0)
		if s.Dead() {
			t.Error("it stands still")
		}
		for _, l := range [][]api.Change{nil, {put(1, "one")}, {{ID: 1, S: "x", Gone: true}}, make([]api.Change, 3001)} {
			if e := s.Commit(l); e != api.ErrOff {
				t.Errorf("Commit: %d", e)
			}
		}
		if s.Dead() != (s != nil) {
			t.Errorf("behind an ErrOff: stands still %t", s.Dead())
		}
		is(t, s, nil, 0)
	}
}
