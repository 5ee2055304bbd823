package dev_test

import (
	"math"
	"slices"
	"testing"

	"offshoot/api"
	"offshoot/dev"
)

const all = math.MaxUint64

// TestExample: Write, a fall: noughts again; with Flush: not.
func TestExample(t *testing.T) {
	d := fresh(t, 1)
	write(t, d, 0, mark(1))
	d.Crash(0, 0)
	up(t, d)
	reads(t, d, noughts)
	write(t, d, 0, mark(1))
	flush(t, d)
	d.Crash(0, 0)
	up(t, d)
	reads(t, d, mark(1))
}

// written has five sectors: those at 0, 1, 2 and 4 were sure, those at 1, 3 and 4 were written since, not by their places, the one at 3 twice.
func written(t *testing.T) *dev.Dev {
	t.Helper()
	d := fresh(t, 5)
	for _, at := range []int{0, 1, 2, 4} {
		write(t, d, at, mark(at))
	}
	flush(t, d)
	for i, at := range []int{4, 3, 1, 3} {
		write(t, d, at, mark(10*at+i))
	}
	return d
}

// TestCrash: by Keep's bits and Torn, what is left of the loose ones; the others are as they were.
func TestCrash(t *testing.T) {
	a, b, c := mark(1), noughts, mark(4)    // sure at 1, 3 and 4
	x, y, z := mark(12), mark(33), mark(40) // written there
	for _, k := range []struct {
		keep    uint64
		torn    int
		l, m, n string
	}{
		{0, 0, a, b, c},
		{1, 0, x, b, c},
		{2, 0, a, y, c},
		{4, 0, a, b, z},
		{3, 0, x, y, c},
		{5, 0, x, b, z},
		{6, 0, a, y, z},
		{7, 0, x, y, z},
		{8, 0, a, b, c},
		{all, 0, x, y, z},
		{all - 7, 0, a, b, c},
		{1 << 63, 0, a, b, c},
		{0, 1, torn(x, 1, a), b, c},
		{0, 64, torn(x, 64, a), b, c},
		{0, 127, torn(x, 127, a), b, c},
		{0, 128, x, b, c},
		{1, 9, x, torn(y, 9, b), c},
		{2, 9, torn(x, 9, a), y, c},
		{3, 9, x, y, torn(z, 9, c)},
		{4, 9, torn(x, 9, a), b, z},
		{5, 9, x, torn(y, 9, b), z},
		{6, 128, x, y, z},
		{7, 9, x, y, z},
	} {
		for _, byPlan := range []bool{false, true} {
			d := written(t)
			if byPlan {
				d.Plan([]api.Fall{{At: 9, Keep: k.keep, Torn: k.torn}})
				fails(t, d, d.Flush())
			} else {
				d.Crash(k.keep, k.torn)
			}
			counts(t, d, 9, 0)
			up(t, d)
			reads(t, d, mark(0), k.l, mark(2), k.m, k.n)
			// What is left is sure.
			d.Crash(0, 0)
			up(t, d)
			reads(t, d, mark(0), k.l, mark(2), k.m, k.n)
		}
	}
}

func TestTorn(t *testing.T) {
	for _, c := range []struct{ torn, n int }{
		{math.MinInt, 0}, {-129, 0}, {-128, 0}, {-1, 0}, {0, 0}, {1, 1}, {2, 2}, {63, 63}, {64, 64}, {127, 127},
		{128, 128}, {129, 128}, {256, 128}, {1 << 32, 128}, {math.MaxInt, 128},
	} {
		d := fresh(t, 3)
		write(t, d, 1, mark(1))
		flush(t, d)
		write(t, d, 1, mark(2))
		write(t, d, 2, mark(3))
		d.Crash(0, c.torn)
		up(t, d)
		reads(t, d, noughts, torn(mark(2), c.n, mark(1)), noughts)
	}
}

// TestTwice: of a sector that was written twice only the last text counts.
func TestTwice(t *testing.T) {
	for _, c := range []struct {
		keep uint64
		torn int
		want string
	}{
		{1, 0, mark(3)}, {0, 0, mark(1)}, {0, 50, torn(mark(3), 50, mark(1))}, {2, 0, mark(1)},
	} {
		d := fresh(t, 1)
		write(t, d, 0, mark(1))
		flush(t, d)
		write(t, d, 0, mark(2))
		write(t, d, 0, mark(3))
		d.Crash(c.keep, c.torn)
		up(t, d)
		reads(t, d, c.want)
	}
}

// TestMany: there are more loose sectors than bits: from 63 on all go by bit 63.
func TestMany(t *testing.T) {
	const n = 200
	for _, c := range []struct {
		keep  uint64
		first int // the place that is torn; n: none
	}{
		{0, 0}, {all, n}, {1 << 63, 0}, {all >> 1, 63}, {all >> 2, 62}, {all - 1<<62, 62}, {1, 1}, {0x5555555555555555, 1}, {0xaaaaaaaaaaaaaaaa, 0}, {1 << 62, 0}, {all - 1<<40, 40},
	} {
		d := fresh(t, n)
		// In an order that is not that of their places.
		for i := range n {
			write(t, d, i*77%n, mark(i*77%n))
		}
		counts(t, d, n, n)
		d.Crash(c.keep, 30)
		up(t, d)
		want := make([]string, n)
		for i := range want {
			switch {
			case i < 64 && c.keep>>i&1 == 1, i >= 64 && c.keep >= 1<<63:
				want[i] = mark(i)
			case i == c.first:
				want[i] = torn(mark(i), 30, noughts)
			default:
				want[i] = noughts
			}
		}
		reads(t, d, want...)
	}
}

// TestLooseNumbers: Keep's bits number the loose ones, not the places, and count those alone that are loose now.
func TestLooseNumbers(t *testing.T) {
	d := fresh(t, 100)
	for at := range 100 {
		write(t, d, at, mark(at))
	}
	flush(t, d)
	write(t, d, 99, mark(103))
	write(t, d, 70, mark(102))
	write(t, d, 5, mark(101))
	d.Crash(5, 7)
	up(t, d)
	want := make([]string, 100)
	for at := range want {
		want[at] = mark(at)
	}
	want[5], want[70], want[99] = mark(101), torn(mark(102), 7, mark(70)), mark(103)
	reads(t, d, want...)
}

// TestFallOfWrite: the power fails ahead of the step: the sector is not even loose, and the step does not count.
func TestFallOfWrite(t *testing.T) {
	d := fresh(t, 2)
	d.Plan([]api.Fall{{At: 1, Keep: all, Torn: 128}})
	write(t, d, 0, mark(1))
	fails(t, d, d.Write(1, mark(2)))
	counts(t, d, 1, 0)
	up(t, d)
	reads(t, d, mark(1), noughts)
	write(t, d, 1, mark(2))
	counts(t, d, 2, 1)
}

// TestFallOfFlush: what was to be made sure is lost.
func TestFallOfFlush(t *testing.T) {
	d := fresh(t, 2)
	d.Plan([]api.Fall{{At: 2, Keep: 2, Torn: 3}})
	write(t, d, 0, mark(1))
	write(t, d, 1, mark(2))
	fails(t, d, d.Flush())
	counts(t, d, 2, 0)
	up(t, d)
	reads(t, d, torn(mark(1), 3, noughts), mark(2))
	flush(t, d)
	counts(t, d, 3, 0)
}

func TestFallOfFirst(t *testing.T) {
	for _, first := range []func(d *dev.Dev) api.Errno{(*dev.Dev).Flush, func(d *dev.Dev) api.Errno { return d.Write(0, mark(1)) }} {
		d := fresh(t, 1)
		d.Plan([]api.Fall{{Keep: 1}})
		fails(t, d, first(d))
		counts(t, d, 0, 0)
		up(t, d)
		reads(t, d, noughts)
		if e := first(d); e != api.OK {
			t.Errorf("a fall struck twice: %d", e)
		}
		counts(t, d, 1, d.Loose())
	}
}

// struck has the steps ahead of which the power fails, in a run of so many steps, each a Write of the next place.
func struck(t *testing.T, d *dev.Dev, steps int) []int {
	t.Helper()
	var l []int
	for d.Steps() < steps {
		if d.Write(d.Steps()%d.Len(), mark(d.Steps())) == api.ErrOff {
			l = append(l, d.Steps())
			up(t, d)
		}
	}
	return l
}

// TestPlan: each fall strikes once, at its own step, in whatever order the plan is; one whose step is over, or never comes, does not.
func TestPlan(t *testing.T) {
	for _, c := range []struct{ at, want []int }{
		{nil, nil},
		{[]int{0}, []int{0}},
		{[]int{9}, []int{9}},
		{[]int{10}, nil},
		{[]int{0, 1, 2}, []int{0, 1, 2}},
		{[]int{7, 3, 5}, []int{3, 5, 7}},
		{[]int{9, 0, 8, 1}, []int{0, 1, 8, 9}},
		{[]int{4, 4}, []int{4, 4}},
		{[]int{4, 2, 4, 2, 4}, []int{2, 2, 4, 4, 4}},
		{[]int{-1, 5}, []int{5}},
		{[]int{5, -1, math.MinInt, 5, math.MaxInt}, []int{5, 5}},
	} {
		var l []api.Fall
		for _, at := range c.at {
			l = append(l, api.Fall{At: at})
		}
		d := fresh(t, 3)
		d.Plan(l)
		if got := struck(t, d, 10); !slices.Equal(got, c.want) {
			t.Errorf("falls at %v strike at %v, must at %v", c.at, got, c.want)
		}
	}
}

// TestFallsAtOneStep: the first of the plan strikes first, wherever it stands between others; the second when the step is tried again.
func TestFallsAtOneStep(t *testing.T) {
	for _, plan := range [][]api.Fall{
		{{At: 1, Keep: 1}, {At: 1, Torn: 9}, {At: 1, Torn: 3}},
		{{At: 8}, {At: 1, Keep: 1}, {At: 5}, {At: 1, Torn: 9}, {At: 0, Keep: 3}, {At: 1, Torn: 3}, {At: -1}},
	} {
		d := fresh(t, 1)
		d.Plan(plan)
		if d.Write(0, mark(1)) == api.ErrOff {
			up(t, d)
			write(t, d, 0, mark(1))
		}
		fails(t, d, d.Flush())
		up(t, d)
		reads(t, d, mark(1))
		fails(t, d, d.Write(0, mark(2)))
		up(t, d)
		fails(t, d, d.Flush())
		up(t, d)
		reads(t, d, mark(1))
		write(t, d, 0, mark(2))
		counts(t, d, 2, 1)
	}
	// Of two that differ, the first one tells what is kept.
	for _, c := range []struct {
		plan []api.Fall
		want string
	}{
		{[]api.Fall{{At: 1, Torn: 9}, {At: 1, Torn: 3}}, torn(mark(1), 9, noughts)},
		{[]api.Fall{{At: 1, Torn: 3}, {At: 1, Torn: 9}}, torn(mark(1), 3, noughts)},
		{[]api.Fall{{At: 1, Keep: 1}, {At: 1}}, mark(1)},
		{[]api.Fall{{At: 1}, {At: 1, Keep: 1}}, noughts},
	} {
		d := fresh(t, 1)
		d.Plan(c.plan)
		write(t, d, 0, mark(1))
		fails(t, d, d.Write(0, mark(2)))
		up(t, d)
		reads(t, d, c.want)
	}
}

// TestPlanOfMany: of many falls at one step the first of the plan tells what is kept, and each strikes in its turn.
func TestPlanOfMany(t *testing.T) {
	var plan []api.Fall
	first := map[int]int{} // by the steps: Torn
	for i := range 60 {
		f := api.Fall{At: 1 + i*3%5, Torn: 60 - i}
		plan = append(plan, f)
		if first[f.At] == 0 {
			first[f.At] = f.Torn
		}
	}
	d := fresh(t, 1)
	d.Plan(plan)
	was := noughts
	for at := 1; at <= 5; at++ {
		write(t, d, 0, mark(at))
		was = torn(mark(at), first[at], was)
		for range 12 {
			fails(t, d, d.Flush())
			counts(t, d, at, 0)
			up(t, d)
			reads(t, d, was)
		}
	}
	flush(t, d)
	counts(t, d, 6, 0)
}

// TestPlanAgain: a plan takes the place of the one ahead of it, what is left of that is gone; its numbers are those of all steps.
func TestPlanAgain(t *testing.T) {
	d := fresh(t, 2)
	d.Plan([]api.Fall{{At: 2}, {At: 6}})
	if l := struck(t, d, 4); !slices.Equal(l, []int{2}) {
		t.Errorf("struck at %v", l)
	}
	d.Plan([]api.Fall{{At: 1}, {At: 3}, {At: 5}, {At: 4}})
	if l := struck(t, d, 8); !slices.Equal(l, []int{4, 5}) {
		t.Errorf("struck at %v", l)
	}
	d.Plan([]api.Fall{{At: 9}})
	d.Plan(nil)
	if l := struck(t, d, 12); l != nil {
		t.Errorf("struck at %v", l)
	}
	d.Plan([]api.Fall{{At: 13}})
	d.Plan([]api.Fall{})
	if l := struck(t, d, 16); l != nil {
		t.Errorf("struck at %v", l)
	}
}

// TestPlanBehindCrash: neither a loss of power that nobody planned nor power that comes again changes the plan, or the steps' numbers; one laid without power holds.
func TestPlanBehindCrash(t *testing.T) {
	d := fresh(t, 2)
	d.Plan([]api.Fall{{At: 3}})
	write(t, d, 0, mark(1))
	d.Crash(0, 0)
	up(t, d)
	if l := struck(t, d, 6); !slices.Equal(l, []int{3}) {
		t.Errorf("struck at %v", l)
	}
	d.Crash(0, 0)
	d.Plan([]api.Fall{{At: 8}, {At: 6}})
	up(t, d)
	if l := struck(t, d, 10); !slices.Equal(l, []int{6, 8}) {
		t.Errorf("struck at %v", l)
	}
}

// TestPlanIsTheCallers: the list that is handed in is not changed, and may be changed later.
func TestPlanIsTheCallers(t *testing.T) {
	plan := []api.Fall{{At: 4, Keep: 1, Torn: 2}, {At: 2}, {At: 3}}
	was := slices.Clone(plan)
	d := fresh(t, 1)
	d.Plan(plan)
	if !slices.Equal(plan, was) {
		t.Errorf("the list became %v", plan)
	}
	for i := range plan {
		plan[i].At = 1
	}
	if l := struck(t, d, 6); !slices.Equal(l, []int{2, 3, 4}) {
		t.Errorf("struck at %v", l)
	}
	if !slices.Equal(plan, []api.Fall{{At: 1, Keep: 1, Torn: 2}, {At: 1}, {At: 1}}) {
		t.Errorf("the list became %v", plan)
	}
}
