package key_test

import (
	"math"
	"math/big"
	"strings"

	"offshoot/api"
	"offshoot/key"
	"offshoot/val"
)

var (
	minus0 = math.Copysign(0, -1)
	inf    = math.Inf(1)
	nan    = math.Float64frombits(0x7ff8000000000001)
)

// of is a value of a kind with parts, whatever they are.
func of(kind int, l ...api.Value) api.Value { return api.Value{Kind: kind, L: l} }

// inLists is v within so many lists.
func inLists(lists int, v api.Value) api.Value {
	for range lists {
		v = of(api.List, v)
	}
	return v
}

func sign(n int) int { return max(-1, min(1, n)) }

// wide is a number's last n bytes, told here once more, so that no fault of the program's own hides in it.
func wide(v uint64, n int) string {
	b := make([]byte, n)
	for i := n - 1; i >= 0; i-- {
		b[i] = byte(v % 256)
		v /= 256
	}
	return string(b)
}

// form is a value's key as the chapter tells it.
func form(v api.Value) string {
	switch v.Kind {
	case api.Null:
		return "\x01"
	case api.Bool:
		if v.B {
			return "\x02\x01"
		}
		return "\x02\x00"
	case api.Int:
		f, over := floor(v.N)
		return "\x03" + wide(turned(f), 8) + wide(over, 2) + "\x02"
	case api.Float:
		return "\x03" + wide(turned(v.F), 8) + "\x00\x00\x03"
	case api.Str:
		return "\x05" + spelt(v.S)
	case api.List:
		return "\x06" + parts(v.L)
	case api.Map:
		return "\x07" + parts(v.L)
	case api.Vertex:
		return "\x08" + wide(uint64(v.N), 8)
	}
	return "\x09" + wide(uint64(v.N), 8)
}

func parts(l []api.Value) string {
	s := ""
	for _, v := range l {
		s += "\x01" + form(v)
	}
	return s + "\x00"
}

// spelt is a text's key without the byte ahead.
func spelt(s string) string {
	var out []byte
	for i := range len(s) {
		out = append(out, s[i])
		if s[i] == 0 {
			out = append(out, 1)
		}
	}
	return string(append(out, 0, 0))
}

// floor is the greatest float that is not above n, and how much n is above it, by numbers that may be of any size.
func floor(n int64) (float64, uint64) {
	f := new(big.Float).SetPrec(53).SetMode(big.ToNegativeInf).SetInt64(n)
	i, _ := f.Int(nil)
	size, _ := f.Float64()
	return size, i.Sub(big.NewInt(n), i).Uint64()
}

// turned is a float's bits as they are ordered.
func turned(f float64) uint64 {
	bits := math.Float64bits(f)
	switch {
	case f != f:
		return 0xfff8000000000001
	case bits >= 1<<63:
		return math.MaxUint64 - bits
	}
	return bits + 1<<63
}

// ints has int64s at their ends, at 0, and where floats no longer tell them apart, rising.
func ints() []int64 {
	return []int64{
		math.MinInt64, math.MinInt64 + 1, math.MinInt64 + 1023, math.MinInt64 + 1024, math.MinInt64 + 1025,
		-1<<62 - 1, -1 << 62, -1<<62 + 1, -1<<53 - 3, -1<<53 - 2, -1<<53 - 1, -1 << 53, -1<<53 + 1, -1<<53 + 2, -256, -255, -2, -1, 0, 1, 2, 255, 256,
		1<<53 - 2, 1<<53 - 1, 1 << 53, 1<<53 + 1, 1<<53 + 2, 1<<53 + 3, 1 << 54, 1<<54 + 1, 1<<54 + 2, 1<<54 + 3, 1<<54 + 4, 1<<62 - 1, 1 << 62, 1<<62 + 1, 1<<62 + 1023, 1<<62 + 1024,
		math.MaxInt64 - 1024, math.MaxInt64 - 1023, math.MaxInt64 - 1022, math.MaxInt64 - 256, math.MaxInt64 - 255, math.MaxInt64 - 1, math.MaxInt64,
	}
}

// floats has floats next to these, and all that are like no other one, rising.
func floats() []float64 {
	return []float64{
		-inf, -math.MaxFloat64, -1<<63 - 2048, -1 << 63, -1<<63 + 1024, -1 << 62, -1<<53 - 2, -1 << 53, -1<<53 + 1, -2, -1.5, -1, -0.5, -math.SmallestNonzeroFloat64, minus0,
		0, math.SmallestNonzeroFloat64, 0.5, 1, 1.5, 2, 255, 1<<53 - 1, 1 << 53, 1<<53 + 2, 1 << 54, 1<<54 + 4, 1 << 62, 1<<62 + 1024, 1<<63 - 1024, 1 << 63, math.MaxFloat64, inf, nan,
	}
}

// numbers has all of these as values.
func numbers() []api.Value {
	var l []api.Value
	for _, n := range ints() {
		l = append(l, val.Int(n))
	}
	for _, f := range floats() {
		l = append(l, val.Float(f))
	}
	return l
}

// texts has texts of which many begin with one another, with noughts and the bytes next to it, rising.
func texts() []string {
	return []string{
		"", "\x00", "\x00\x00", "\x00\x00\x00", "\x00\x00\x01", "\x00\x01", "\x00\x01\x00", "\x00\x01\x01", "\x00\x02", "\x00a", "\x00\xff", "\x01", "\x01\x00", "\x01\x01", "\x02",
		"A", "a", "a\x00", "a\x00\x00", "a\x00\x01", "a\x00b", "a\x01", "aa", "ab", "ab\x00", "abc", "b", strings.Repeat("b", api.MostStr-1), strings.Repeat("b", api.MostStr),
		"\xfe", "\xfe\xff", "\xff", "\xff\x00", "\xff\xff", "\xff\xff\xff",
	}
}

// lists has lists of which many begin with one another, and that stand within one another.
func lists() []api.Value {
	a, b, one := val.Text("a"), val.Text("b"), val.Int(1)
	return []api.Value{
		of(5), of(5, val.None()), of(5, val.None(), val.None()), of(5, val.None(), a), of(5, val.Yes(false)), of(5, val.Yes(true)), of(5, one), of(5, val.Float(1)), of(5, one, one), of(5, one, a), of(5, val.Int(2)),
		of(5, val.Text("")), of(5, val.Text(""), val.Text("")), of(5, val.Text("\x00")), of(5, val.Text("\x00"), a), of(5, a), of(5, a, val.None()), of(5, a, a), of(5, a, b), of(5, val.Text("a\x00")), of(5, val.Text("aa")), of(5, b),
		of(5, of(5)), of(5, of(5), val.None()), of(5, of(5), of(5)), of(5, of(5, of(5))), of(5, of(5, a)), of(5, of(5, a), b), of(5, of(5, a, b)), of(5, of(5, a, b), b), of(5, of(6)), of(5, of(6, a, b)), of(5, of(6, a, b), a),
		of(5, val.Vertex(1)), of(5, val.Vertex(1), val.Edge(1)), of(5, val.Edge(1)), inLists(api.MostDeep-1, a), inLists(api.MostDeep-1, val.None()), inLists(api.MostDeep-1, of(5)), inLists(api.MostDeep-2, of(6, a, b)),
	}
}

func maps() []api.Value {
	a, b, one := val.Text("a"), val.Text("b"), val.Int(1)
	return []api.Value{
		of(6), of(6, val.None(), val.None()), of(6, val.None(), a), of(6, one, one), of(6, one, one, val.Float(1), one), of(6, one, one, val.Int(2), val.None()), of(6, one, a), of(6, val.Int(2), one),
		of(6, val.Text(""), val.Text("")), of(6, a, of(5)), of(6, a, of(5, a)), of(6, a, of(5, a), b, one), of(6, a, of(5, a, a)), of(6, a, of(6)), of(6, a, of(6, a, b)), of(6, a, of(6, a, b), b, a), of(6, a, b), of(6, a, b, b, a), of(6, b, a),
		of(6, of(5), one), of(6, of(5, a), one), of(6, of(5, a, b), one), of(6, of(6), one), of(6, val.Vertex(3), val.Edge(3)), of(6, val.Edge(3), val.Vertex(3)),
	}
}

func ids() []int64 { return []int64{1, 2, 255, 256, 257, 1 << 32, math.MaxInt64 - 1, math.MaxInt64} }

// all has all of these, and null, the bools and ids: values that may be, no two of them the same.
func all() []api.Value {
	l := []api.Value{val.None(), val.Yes(false), val.Yes(true)}
	l = append(l, numbers()...)
	for _, s := range texts() {
		l = append(l, val.Text(s))
	}
	l = append(append(l, lists()...), maps()...)
	for _, n := range ids() {
		l = append(l, val.Vertex(n), val.Edge(n))
	}
	return l
}

// keyed is a value with its key, so that pairs of many cost no more than they must.
type keyed struct {
	v api.Value
	k string
}

func keysOf(l []api.Value) []keyed {
	out := make([]keyed, len(l))
	for i, v := range l {
		out[i] = keyed{v, key.Of(v)}
	}
	return out
}
