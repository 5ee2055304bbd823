package key_test

import (
	"cmp"
	"math"
	"math/rand"
	"slices"
	"strings"
	"testing"

	"offshoot/api"
	"offshoot/key"
	"offshoot/val"
)

// agree holds that two keys are ordered as their values are, are the same just for such as are the same, and that else none begins with the other one.
func agree(t *testing.T, a, b keyed) {
	t.Helper()
	c := sign(val.Cmp(a.v, b.v))
	if got := cmp.Compare(a.k, b.k); got != c {
		t.Errorf("%v is ordered to %v by %d, but their keys by %d: %x, %x", a.v, b.v, c, got, a.k, b.k)
	}
	if (a.k == b.k) != val.Same(a.v, b.v) {
		t.Errorf("%v, %v: %x, %x", a.v, b.v, a.k, b.k)
	}
	if a.k != b.k && (strings.HasPrefix(a.k, b.k) || strings.HasPrefix(b.k, a.k)) {
		t.Errorf("one key begins with another one's: of %v and %v: %x, %x", a.v, b.v, a.k, b.k)
	}
}

func agreeAll(t *testing.T, l []api.Value) {
	t.Helper()
	keys := keysOf(l)
	for _, a := range keys {
		for _, b := range keys {
			agree(t, a, b)
		}
	}
}

func TestPairs(t *testing.T) { agreeAll(t, all()) }

// TestRising: values that rise, by hand.
func TestRising(t *testing.T) {
	i, f, s := val.Int, val.Float, val.Text
	l := []api.Value{
		val.None(), val.Yes(false), val.Yes(true),
		f(-inf), f(-1<<63 - 2048), i(math.MinInt64), f(-1 << 63), i(math.MinInt64 + 1), f(-1<<63 + 1024), i(-1<<53 - 2), f(-1<<53 - 2), i(-1<<53 - 1), i(-1 << 53), f(-1 << 53), i(-1), f(-1), f(-0.5), f(minus0), i(0), f(0), f(0.5), i(1), f(1), f(1.5), i(2),
		i(1<<53 - 1), f(1<<53 - 1), i(1 << 53), f(1 << 53), i(1<<53 + 1), i(1<<53 + 2), f(1<<53 + 2), i(math.MaxInt64 - 1023), f(1<<63 - 1024), i(math.MaxInt64 - 1022), i(math.MaxInt64), f(1 << 63), f(inf), f(nan),
		s(""), s("\x00"), s("\x00\x00"), s("\x00\x01"), s("\x01"), s("a"), s("a\x00"), s("a\x00b"), s("a\x01"), s("ab"), s("b"), s("\xff"), s("\xff\xff"),
		of(5), of(5, val.None()), of(5, i(1)), of(5, i(1), i(0)), of(5, f(1)), of(5, i(2)), of(5, s("")), of(5, s("a")), of(5, s("a"), s("b")), of(5, s("a\x00")), of(5, s("ab")), of(5, of(5)), of(5, of(5), i(0)), of(5, of(5, i(0))), of(5, of(6)), of(5, val.Vertex(1)),
		of(6), of(6, i(1), i(1)), of(6, i(1), i(1), i(2), i(0)), of(6, i(1), i(2)), of(6, f(1), i(0)), of(6, s("a"), of(5)), of(6, s("a"), of(6)),
		val.Vertex(1), val.Vertex(255), val.Vertex(256), val.Vertex(math.MaxInt64), val.Edge(1), val.Edge(2), val.Edge(math.MaxInt64),
	}
	keys := keysOf(l)
	for i, a := range keys {
		for k, b := range keys {
			if cmp.Compare(a.k, b.k) != sign(i-k) || i != k && strings.HasPrefix(a.k, b.k) {
				t.Errorf("%v, %v: %x, %x", a.v, b.v, a.k, b.k)
			}
		}
	}
}

// TestPairsWithin: as parts of lists, as keys and as values of maps, too.
func TestPairsWithin(t *testing.T) {
	var few []api.Value
	for i, v := range all() {
		if i%5 == 0 && depth(v) < api.MostDeep-2 {
			few = append(few, v)
		}
	}
	var l []api.Value
	for _, a := range few {
		l = append(l, of(5, a), of(5, of(5, a)), of(6, a, val.None()))
		for _, b := range few {
			if len(a.L)+len(b.L) > 0 || len(l)%3 == 0 {
				l = append(l, of(5, a, b), of(6, a, b))
			}
		}
	}
	agreeAll(t, l)
}

func depth(v api.Value) int {
	deep := 0
	for _, x := range v.L {
		deep = max(deep, depth(x))
	}
	return deep + 1
}

// some is a value that may be, of few parts, so that many are alike, or nearly.
func some(r *rand.Rand, deep int) api.Value {
	kinds := 9
	if deep == 0 {
		kinds = 7
	}
	switch r.Intn(kinds) {
	case 0:
		return []api.Value{val.None(), val.Yes(false), val.Yes(true)}[r.Intn(3)]
	case 1, 2:
		l := numbers()
		return l[r.Intn(len(l))]
	case 3, 4:
		b := make([]byte, r.Intn(5))
		for i := range b {
			b[i] = "\x00\x00\x01\x02\x05a\xff"[r.Intn(7)]
		}
		return val.Text(string(b))
	case 5:
		return val.Vertex(1 + r.Int63n(3))
	case 6:
		return val.Edge(1 + r.Int63n(3))
	case 7:
		return val.List(someParts(r, deep)...)
	}
	return val.Map(someParts(r, deep)...)
}

func someParts(r *rand.Rand, deep int) []api.Value {
	l := make([]api.Value, r.Intn(5))
	for i := range l {
		l[i] = some(r, deep-1)
	}
	return l
}

func TestSome(t *testing.T) {
	for seed := range int64(20) {
		r := rand.New(rand.NewSource(seed))
		var l []api.Value
		for range 300 {
			l = append(l, some(r, 3))
		}
		agreeAll(t, l)
	}
}

// TestSomeNear: of a value and one that has another part in one place, deep within it, perhaps.
func TestSomeNear(t *testing.T) {
	same := 0
	for seed := range int64(30000) {
		r := rand.New(rand.NewSource(seed))
		v := some(r, 4)
		w := other(r, val.Copy(v))
		if val.Check(v) != api.OK || val.Check(w) != api.OK {
			continue
		}
		a, b := keyed{v, key.Of(v)}, keyed{w, key.Of(w)}
		agree(t, a, b)
		if a.k == b.k {
			same++
		}
	}
	if same == 0 || same > 10000 {
		t.Errorf("%d of these are the same", same)
	}
}

// other changes one part of a value, or ends a list sooner, or lets it go on.
func other(r *rand.Rand, v api.Value) api.Value {
	if v.Kind == api.List && r.Intn(4) == 0 {
		if len(v.L) > 0 && r.Intn(2) == 0 {
			v.L = v.L[:len(v.L)-1]
			return v
		}
		v.L = append(v.L, some(r, 1))
		return v
	}
	if len(v.L) > 0 {
		i := r.Intn(len(v.L))
		v.L[i] = other(r, v.L[i])
		return v
	}
	if v.Kind == api.Str && r.Intn(2) == 0 {
		v.S += "\x00\x01a"[r.Intn(3):][:1]
		return v
	}
	return some(r, 1)
}

// TestNumberPairs: int64s and floats of one size, and next to it.
func TestNumberPairs(t *testing.T) {
	r := rand.New(rand.NewSource(3))
	for range 20000 {
		n := int64(r.Uint64()) >> r.Intn(64)
		f := float64(n)
		l := []api.Value{val.Int(n), val.Float(f), val.Float(math.Nextafter(f, inf)), val.Float(math.Nextafter(f, -inf))}
		if n < math.MaxInt64 {
			l = append(l, val.Int(n+1))
		}
		if n > math.MinInt64 {
			l = append(l, val.Int(n-1))
		}
		agreeAll(t, l)
	}
}

// TestSort: what is sorted by keys is sorted by values.
func TestSort(t *testing.T) {
	keys := keysOf(all())
	slices.SortFunc(keys, func(a, b keyed) int { return strings.Compare(a.k, b.k) })
	if !slices.IsSortedFunc(keys, func(a, b keyed) int { return val.Cmp(a.v, b.v) }) {
		t.Error("keys are ordered in another way than values")
	}
}

// TestNoNumber: all floats that are no number have one key, as they are the same.
func TestNoNumber(t *testing.T) {
	var l []api.Value
	for _, bits := range []uint64{0x7ff8000000000001, 0x7ff8000000000002, 0x7ff0000000000001, 0xfff8000000000001, math.MaxUint64, math.MaxInt64} {
		l = append(l, api.Value{Kind: api.Float, F: math.Float64frombits(bits)})
	}
	agreeAll(t, append(l, val.Float(inf), val.Float(-inf), val.Int(math.MaxInt64), val.Text("")))
}

// TestNames: names' keys are ordered as names, whatever stands behind them, and none begins with another one's.
func TestNames(t *testing.T) {
	l := texts()
	for i, a := range l {
		for k, b := range l {
			x, y := key.Name(a), key.Name(b)
			if cmp.Compare(x, y) != sign(i-k) || i != k && strings.HasPrefix(x, y) {
				t.Errorf("%q, %q: %x, %x", a, b, x, y)
			}
			if i != k && cmp.Compare(x+key.ID(2), y+key.ID(1)) != sign(i-k) {
				t.Errorf("%q, %q, with numbers behind them", a, b)
			}
		}
	}
}

func TestIDs(t *testing.T) {
	l := append([]int64{0}, ids()...)
	for i, a := range l {
		for k, b := range l {
			if cmp.Compare(key.ID(a), key.ID(b)) != sign(i-k) {
				t.Error(a, b)
			}
		}
	}
}
