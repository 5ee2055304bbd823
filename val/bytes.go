package val

import (
	"math"
	"strings"

	"offshoot/api"
	"offshoot/num"
)

// Eight is a number's eight bytes, the highest first.
func Eight(n uint64) string {
	var b [8]byte
	for i := range b {
		b[i] = byte(n >> (56 - 8*i))
	}
	return string(b[:])
}

// Two is a number's two lowest bytes, the higher one first.
func Two(n int) string { return string([]byte{byte(n >> 8), byte(n)}) }

// Wide is the number of up to eight bytes, the highest first.
func Wide(s string) uint64 {
	n := uint64(0)
	for i := range min(8, len(s)) {
		n = n<<8 | uint64(s[i])
	}
	return n
}

// Put is a value's bytes.
func Put(v api.Value) (string, api.Errno) {
	if e := Check(v); e != api.OK {
		return "", e
	}
	var b strings.Builder
	put(&b, v)
	return b.String(), api.OK
}

func put(b *strings.Builder, v api.Value) {
	b.WriteByte(byte(v.Kind))
	switch v.Kind {
	case api.Bool:
		if v.B {
			b.WriteByte(1)
		} else {
			b.WriteByte(0)
		}
	case api.Int, api.Vertex, api.Edge:
		b.WriteString(Eight(uint64(v.N)))
	case api.Float:
		b.WriteString(Eight(math.Float64bits(num.Canon(v.F))))
	case api.Str:
		b.WriteString(Two(len(v.S)))
		b.WriteString(v.S)
	case api.List, api.Map:
		b.WriteString(Two(len(v.L)))
		for _, x := range v.L {
			put(b, x)
		}
	}
}

// Get is the value at the beginning of bytes, and how many it has.
func Get(s string) (api.Value, int, api.Errno) {
	v, n, e := get(s, 1)
	if e == api.OK && n > api.MostBytes {
		return fail(api.ErrMost)
	}
	return v, n, e
}

func fail(e api.Errno) (api.Value, int, api.Errno) { return api.Value{}, 0, e }

// get reads a value that stands so deep, counted from 1 on.
func get(s string, deep int) (api.Value, int, api.Errno) {
	if deep > api.MostDeep {
		return fail(api.ErrMost)
	}
	if s == "" {
		return fail(api.ErrCut)
	}
	switch s[0] {
	case api.Null:
		return None(), 1, api.OK
	case api.Bool:
		return getBool(s)
	case api.Int, api.Float, api.Vertex, api.Edge:
		return getNumber(s)
	case api.Str:
		return getText(s)
	case api.List, api.Map:
		return getParts(s, deep)
	}
	return fail(api.ErrShape)
}

func getBool(s string) (api.Value, int, api.Errno) {
	if len(s) < 2 {
		return fail(api.ErrCut)
	}
	if s[1] > 1 {
		return fail(api.ErrShape)
	}
	return Yes(s[1] == 1), 2, api.OK
}

func getNumber(s string) (api.Value, int, api.Errno) {
	if len(s) < 9 {
		return fail(api.ErrCut)
	}
	v, bits := api.Value{Kind: int(s[0])}, Wide(s[1:])
	if v.Kind == api.Float {
		v.F = math.Float64frombits(bits)
		if math.Float64bits(num.Canon(v.F)) != bits {
			return fail(api.ErrShape)
		}
		return v, 9, api.OK
	}
	v.N = int64(bits)
	if v.Kind != api.Int && v.N < 1 {
		return fail(api.ErrShape)
	}
	return v, 9, api.OK
}

func getText(s string) (api.Value, int, api.Errno) {
	if len(s) < 3 {
		return fail(api.ErrCut)
	}
	end := 3 + int(Wide(s[1:3]))
	// ErrCut is named first: a text that is too long tells so only if all of it is there.
	if len(s) < end {
		return fail(api.ErrCut)
	}
	if end > 3+api.MostStr {
		return fail(api.ErrMost)
	}
	return Text(s[3:end]), end, api.OK
}

// getParts reads a list or a map.
func getParts(s string, deep int) (api.Value, int, api.Errno) {
	if len(s) < 3 {
		return fail(api.ErrCut)
	}
	v, at, n := api.Value{Kind: int(s[0])}, 3, int(Wide(s[1:3]))
	if n > api.MostList {
		return fail(api.ErrMost)
	}
	for range n {
		x, size, e := get(s[at:], deep+1)
		if e != api.OK {
			return fail(e)
		}
		v.L = append(v.L, x)
		at += size
	}
	if v.Kind == api.Map && !rises(v.L) {
		return fail(api.ErrShape)
	}
	return v, at, api.OK
}
