// Package num is layer 1: see shared/doc/01-num.md.
package num

import (
	"math"

	"offshoot/api"
)

const (
	noNumber = 0x7ff8000000000001 // bits of the one float that is no number
	highest  = 1 << 63            // the bit of a float that is its sign
	least    = -1 << 63           // int64s, as floats: from here on
	beyond   = 1 << 63            // and below this, which is none of them
)

// Add is a sum, and whether it is an int64.
func Add(a, b int64) (int64, bool) {
	s := a + b
	// A sum that wrapped round has moved against the sign of what was added.
	if (s < a) != (b < 0) {
		return 0, false
	}
	return s, true
}

// Sub is a difference, and whether it is an int64.
func Sub(a, b int64) (int64, bool) {
	d := a - b
	if (d > a) != (b < 0) {
		return 0, false
	}
	return d, true
}

// Mul is a product, and whether it is an int64.
func Mul(a, b int64) (int64, bool) {
	if b == 0 {
		return 0, true
	}
	p := a * b
	// The least int64 by -1 wraps round to itself, so dividing back does not show it.
	if p/b != a || a == math.MinInt64 && b == -1 {
		return 0, false
	}
	return p, true
}

// Canon is a float, with one alone that is no number.
func Canon(f float64) float64 {
	if math.IsNaN(f) {
		return math.Float64frombits(noNumber)
	}
	return f
}

// Key is a number that is ordered as floats are: the one that is no number above all, -0 below 0.
func Key(f float64) uint64 {
	b := math.Float64bits(Canon(f))
	// Below 0 the greater bits are the lesser float, so all of them turn.
	if b&highest != 0 {
		return ^b
	}
	return b | highest
}

// Float is the float of a key. No key (false) is one whose float is no number, but not the one of Canon: it comes as its bits say.
func Float(k uint64) (float64, bool) {
	b := ^k
	if k&highest != 0 {
		b = k ^ highest
	}
	f := math.Float64frombits(b)
	return f, b == noNumber || !math.IsNaN(f)
}

// Split is a number as the greatest float that is not above it, and what is above that.
func Split(n int64) api.Part {
	f := float64(n)
	// The nearest float may be the one above; 2^63 must not be made an int64 to see that.
	if f >= beyond || int64(f) > n {
		f = math.Nextafter(f, math.Inf(-1))
	}
	return api.Part{F: f, Over: n - int64(f)}
}

// Whole is the int64 that a float is; false: it is none.
func Whole(f float64) (int64, bool) {
	if f >= least && f < beyond && f == math.Trunc(f) {
		return int64(f), true
	}
	return 0, false
}

// Cmp is -1, 0 or 1, as one float is ordered to another one.
func Cmp(a, b float64) int {
	// Keys, as < and == know neither -0 from 0 nor where the one that is no number stands.
	j, k := Key(a), Key(b)
	switch {
	case j < k:
		return -1
	case j > k:
		return 1
	}
	return 0
}

// Mix is how an int64 is ordered to a float, never 0: of those of one size the int64 is ahead, but behind -0.
func Mix(n int64, f float64) int {
	p := Split(n)
	if c := Cmp(p.F, f); c != 0 {
		return c
	}
	if p.Over > 0 {
		return 1
	}
	return -1
}

// Sum is the sum of floats, one behind the other: in another order it may be another one.
func Sum(l []float64) float64 {
	s := 0.0
	for _, f := range l {
		s += f
	}
	return Canon(s)
}
