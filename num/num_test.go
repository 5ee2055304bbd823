package num

import (
	"math"
	"math/big"
	"math/rand"
	"slices"
	"testing"

	"offshoot/api"
)

var (
	minus0 = math.Copysign(0, -1)
	inf    = math.Inf(1)
	nan    = math.NaN()
)

// whole has int64s around every size at which something changes, and some by a fixed seed.
func whole() []int64 {
	l := []int64{0, math.MinInt64, math.MaxInt64, 3037000499, 3037000500, -3037000500}
	for i := range 63 {
		for _, d := range []int64{-2, -1, 0, 1, 2} {
			l = append(l, 1<<i+d, -1<<i+d)
		}
	}
	r := rand.New(rand.NewSource(1))
	for range 200 {
		l = append(l, int64(r.Uint64())>>r.Intn(64))
	}
	return append(l, math.MinInt64+1, math.MaxInt64-1, math.MaxInt64-511, math.MaxInt64-512, math.MaxInt64-1023)
}

// rising has floats in their order, all of them different.
func rising() []float64 {
	l := []float64{math.SmallestNonzeroFloat64, 0x1p-1022, 0.1, 0.5, math.Nextafter(1, 0), 1, math.Nextafter(1, 2), 1.5, 2,
		1<<53 - 1, 1 << 53, 1<<53 + 2, 1<<63 - 1024, 1 << 63, 1<<63 + 2048, math.MaxFloat64, inf}
	var out []float64
	for i := range l {
		out = append(out, -l[len(l)-1-i])
	}
	out = append(out, minus0, 0)
	return append(append(out, l...), nan)
}

// noNumbers has bits of floats that are no numbers: below 0 and above, loud and quiet, the one of Canon first.
func noNumbers() []uint64 {
	return []uint64{0x7ff8000000000001, 0x7ff8000000000000, 0x7ff8000000000002, 0x7ff0000000000001, 0x7fffffffffffffff,
		0xfff8000000000001, 0xfff8000000000000, 0xfff0000000000001, 0xffffffffffffffff}
}

func sameBits(a, b float64) bool { return math.Float64bits(a) == math.Float64bits(b) }

func checkWhole(t *testing.T, name string, f func(a, b int64) (int64, bool), exact func(z, a, b *big.Int) *big.Int) {
	t.Helper()
	l := whole()
	for _, a := range l {
		for _, b := range l {
			z := exact(new(big.Int), big.NewInt(a), big.NewInt(b))
			var n int64
			if z.IsInt64() {
				n = z.Int64()
			}
			if m, ok := f(a, b); m != n || ok != z.IsInt64() {
				t.Fatalf("%s(%d, %d): %d, %t; must be %d, %t", name, a, b, m, ok, n, z.IsInt64())
			}
		}
	}
}

func TestAdd(t *testing.T) { checkWhole(t, "Add", Add, (*big.Int).Add) }

func TestSub(t *testing.T) { checkWhole(t, "Sub", Sub, (*big.Int).Sub) }

func TestMul(t *testing.T) { checkWhole(t, "Mul", Mul, (*big.Int).Mul) }

func TestOverflowByHand(t *testing.T) {
	for _, c := range []struct {
		name string
		f    func(a, b int64) (int64, bool)
		a, b int64
		n    int64
		ok   bool
	}{
		{"Add", Add, 2, 3, 5, true},
		{"Add", Add, math.MaxInt64, 1, 0, false},
		{"Add", Add, math.MinInt64, -1, 0, false},
		{"Add", Add, math.MinInt64, math.MinInt64, 0, false},
		{"Add", Add, math.MaxInt64, math.MinInt64, -1, true},
		{"Sub", Sub, 2, 3, -1, true},
		{"Sub", Sub, 0, math.MinInt64, 0, false},
		{"Sub", Sub, -1, math.MinInt64, math.MaxInt64, true},
		{"Sub", Sub, math.MinInt64, 1, 0, false},
		{"Mul", Mul, -2, 3, -6, true},
		{"Mul", Mul, math.MinInt64, 1, math.MinInt64, true},
		{"Mul", Mul, math.MinInt64, -1, 0, false},
		{"Mul", Mul, -1, math.MinInt64, 0, false},
		{"Mul", Mul, 1 << 32, 1 << 32, 0, false},
		{"Mul", Mul, 0, math.MinInt64, 0, true},
	} {
		if n, ok := c.f(c.a, c.b); n != c.n || ok != c.ok {
			t.Errorf("%s(%d, %d): %d, %t", c.name, c.a, c.b, n, ok)
		}
	}
}

func TestCanon(t *testing.T) {
	for _, f := range rising() {
		if c := Canon(f); f == f && !sameBits(c, f) {
			t.Error(f, c)
		}
	}
	for _, b := range noNumbers() {
		if c := math.Float64bits(Canon(math.Float64frombits(b))); c != 0x7ff8000000000001 {
			t.Errorf("%x: %x", b, c)
		}
	}
}

func TestKeyByHand(t *testing.T) {
	for _, c := range []struct {
		f float64
		k uint64
	}{
		{math.Inf(-1), 0x000fffffffffffff},
		{-1, 0x400fffffffffffff},
		{-math.SmallestNonzeroFloat64, 0x7ffffffffffffffe},
		{minus0, 0x7fffffffffffffff},
		{0, 0x8000000000000000},
		{math.SmallestNonzeroFloat64, 0x8000000000000001},
		{1, 0xbff0000000000000},
		{inf, 0xfff0000000000000},
		{nan, 0xfff8000000000001},
	} {
		if k := Key(c.f); k != c.k {
			t.Errorf("%g: %x, must be %x", c.f, k, c.k)
		}
		if f, ok := Float(c.k); !ok || !sameBits(f, c.f) {
			t.Errorf("%x: %g, %t", c.k, f, ok)
		}
	}
	for _, b := range noNumbers() {
		if k := Key(math.Float64frombits(b)); k != 0xfff8000000000001 {
			t.Errorf("%x: %x", b, k)
		}
	}
}

// bitsOf turns a key's bits back, as chapter 1 tells.
func bitsOf(k uint64) uint64 {
	if k >= 1<<63 {
		return k - 1<<63
	}
	return math.MaxUint64 - k
}

func TestFloat(t *testing.T) {
	r := rand.New(rand.NewSource(2))
	l := []uint64{0, 1, 0x000ffffffffffffe, 0x000fffffffffffff, 0x0010000000000000, 0x0007fffffffffffe, 0xfff0000000000000,
		0xfff0000000000001, 0xfff8000000000000, 0xfff8000000000001, 0xfff8000000000002, math.MaxUint64}
	for range 2000 {
		l = append(l, r.Uint64(), r.Uint64()>>12, math.MaxUint64-r.Uint64()>>12)
	}
	for _, k := range l {
		f, ok := Float(k)
		if math.Float64bits(f) != bitsOf(k) {
			t.Errorf("%x: bits %x", k, math.Float64bits(f))
		}
		if ok != (Key(f) == k) {
			t.Errorf("%x: %t", k, ok)
		}
	}
	for _, k := range []uint64{0, 0x000ffffffffffffe, 0xfff0000000000001, 0xfff8000000000000, math.MaxUint64} {
		if f, ok := Float(k); ok || f == f {
			t.Errorf("%x is nobody's key: %g, %t", k, f, ok)
		}
	}
}

// checkSplit holds n's parts against it with numbers that do not end: F is not above n, the next float is, and Over is what lacks.
func checkSplit(t *testing.T, n int64) {
	t.Helper()
	p := Split(n)
	exact := func(f float64) *big.Int {
		z, _ := new(big.Float).SetFloat64(f).Int(nil)
		return z
	}
	whole := big.NewInt(n)
	next := new(big.Float).SetFloat64(math.Nextafter(p.F, inf))
	if exact(p.F).Cmp(whole) > 0 || next.Cmp(new(big.Float).SetInt(whole)) <= 0 {
		t.Errorf("Split(%d).F: %g", n, p.F)
	}
	if new(big.Int).Sub(whole, exact(p.F)).Cmp(big.NewInt(p.Over)) != 0 {
		t.Errorf("Split(%d).Over: %d above %g", n, p.Over, p.F)
	}
}

func TestSplit(t *testing.T) {
	for _, n := range whole() {
		checkSplit(t, n)
	}
	for _, c := range []struct {
		n int64
		p api.Part
	}{
		{7, api.Part{F: 7}},
		{-7, api.Part{F: -7}},
		{1<<53 + 1, api.Part{F: 1 << 53, Over: 1}},
		{1<<53 + 3, api.Part{F: 1<<53 + 2, Over: 1}},
		{-1<<53 - 1, api.Part{F: -1<<53 - 2, Over: 1}},
		{-1<<53 - 3, api.Part{F: -1<<53 - 4, Over: 1}},
		{math.MaxInt64, api.Part{F: 1<<63 - 1024, Over: 1023}},
		{math.MinInt64, api.Part{F: -1 << 63}},
		{math.MinInt64 + 1, api.Part{F: -1 << 63, Over: 1}},
		{math.MinInt64 + 2047, api.Part{F: -1<<63 + 1024, Over: 1023}},
	} {
		if p := Split(c.n); p != c.p {
			t.Errorf("Split(%d): %v", c.n, p)
		}
	}
	if p := Split(0); !sameBits(p.F, 0) || p.Over != 0 {
		t.Errorf("Split(0): %v", p)
	}
}

func TestWhole(t *testing.T) {
	for _, c := range []struct {
		f float64
		n int64
	}{
		{0, 0}, {minus0, 0}, {1, 1}, {-1, -1}, {1 << 53, 1 << 53}, {-1 << 53, -1 << 53}, {1<<53 - 1, 1<<53 - 1}, {1e15, 1e15},
		{1<<63 - 1024, 1<<63 - 1024}, {-1 << 63, math.MinInt64}, {-1<<63 + 1024, math.MinInt64 + 1024},
	} {
		if n, ok := Whole(c.f); !ok || n != c.n {
			t.Errorf("Whole(%g): %d, %t", c.f, n, ok)
		}
	}
	for _, f := range []float64{0.5, -0.5, 1<<52 - 0.5, math.SmallestNonzeroFloat64, -math.SmallestNonzeroFloat64,
		1 << 63, -1<<63 - 2048, math.MaxFloat64, -math.MaxFloat64, inf, -inf, nan, math.Float64frombits(0xfff0000000000001)} {
		if n, ok := Whole(f); ok || n != 0 {
			t.Errorf("Whole(%g): %d, %t", f, n, ok)
		}
	}
}

func sign(n int) int {
	return max(-1, min(1, n))
}

func TestOrderOfFloats(t *testing.T) {
	l := rising()
	for i, a := range l {
		for k, b := range l {
			if c := Cmp(a, b); c != sign(i-k) {
				t.Errorf("Cmp(%g, %g): %d", a, b, c)
			}
			if (Key(a) < Key(b)) != (i < k) || (Key(a) == Key(b)) != (i == k) {
				t.Errorf("Key(%g): %x, Key(%g): %x", a, Key(a), b, Key(b))
			}
		}
	}
	for _, a := range noNumbers() {
		for _, b := range noNumbers() {
			if c := Cmp(math.Float64frombits(a), math.Float64frombits(b)); c != 0 {
				t.Errorf("%x, %x: %d", a, b, c)
			}
		}
		if f := math.Float64frombits(a); Cmp(f, inf) != 1 || Cmp(-inf, f) != -1 {
			t.Errorf("%x is not behind all", a)
		}
	}
}

// mix is what Mix must tell, by sizes: it does not go by Split.
func mix(n int64, f float64) int {
	switch {
	case math.IsNaN(f):
		return -1
	case f == 0 && n == 0 && math.Signbit(f):
		return 1
	}
	c := new(big.Float).SetInt64(n).Cmp(new(big.Float).SetFloat64(f))
	if c == 0 {
		return -1
	}
	return c
}

func TestMix(t *testing.T) {
	fs := rising()
	for _, n := range whole() {
		f := float64(n)
		for _, f := range append(fs, f, math.Nextafter(f, inf), math.Nextafter(f, -inf)) {
			if c := Mix(n, f); c != mix(n, f) {
				t.Errorf("Mix(%d, %g): %d", n, f, c)
			}
		}
		for _, b := range noNumbers() {
			if c := Mix(n, math.Float64frombits(b)); c != -1 {
				t.Errorf("Mix(%d, %x): %d", n, b, c)
			}
		}
	}
	for _, c := range []struct {
		n int64
		f float64
		c int
	}{
		{0, minus0, 1}, {0, 0, -1}, {1, 1, -1}, {-1, -1, -1}, {2, 1.5, 1}, {1, 1.5, -1}, {1<<53 + 1, 1 << 53, 1}, {1<<53 + 1, 1<<53 + 2, -1},
		{-1<<53 - 1, -1 << 53, -1}, {-1<<53 - 1, -1<<53 - 2, 1}, {math.MaxInt64, 1 << 63, -1}, {math.MaxInt64, 1<<63 - 1024, 1},
		{math.MinInt64, -1 << 63, -1}, {math.MinInt64 + 1, -1 << 63, 1}, {math.MaxInt64, inf, -1}, {math.MinInt64, -inf, 1}, {math.MaxInt64, nan, -1},
	} {
		if m := Mix(c.n, c.f); m != c.c {
			t.Errorf("Mix(%d, %g): %d", c.n, c.f, m)
		}
	}
}

func TestSum(t *testing.T) {
	for _, c := range []struct {
		l []float64
		s float64
	}{
		{nil, 0},
		{[]float64{}, 0},
		{[]float64{1.5, 2}, 3.5},
		{[]float64{minus0}, 0},
		{[]float64{minus0, minus0}, 0},
		{[]float64{0.1, 0.2, 0.3}, 0.6000000000000001},
		{[]float64{0.3, 0.2, 0.1}, 0.6},
		{[]float64{1 << 53, 1, 1}, 1 << 53},
		{[]float64{1, 1, 1 << 53}, 1<<53 + 2},
		{[]float64{math.MaxFloat64, math.MaxFloat64, -math.MaxFloat64}, inf},
		{[]float64{math.MaxFloat64, -math.MaxFloat64, math.MaxFloat64}, math.MaxFloat64},
		{[]float64{-inf, 1}, -inf},
		{[]float64{inf, -inf}, math.Float64frombits(0x7ff8000000000001)},
		{[]float64{1, math.Float64frombits(0xfff8000000000007), 2}, math.Float64frombits(0x7ff8000000000001)},
		{[]float64{math.Float64frombits(0x7ff0000000000001)}, math.Float64frombits(0x7ff8000000000001)},
	} {
		was := slices.Clone(c.l)
		if s := Sum(c.l); !sameBits(s, c.s) {
			t.Errorf("Sum(%v): %g, must be %g", c.l, s, c.s)
		}
		for i := range was {
			if !sameBits(was[i], c.l[i]) {
				t.Errorf("Sum(%v) changed what was handed in", was)
			}
		}
	}
}
