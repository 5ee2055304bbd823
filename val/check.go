package val

import (
	"math"

	"offshoot/api"
)

// Check tells why a value may not be.
func Check(v api.Value) api.Errno {
	if left(v, api.MostBytes) < 0 {
		return api.ErrMost
	}
	return check(v, 1)
}

// left is how many of n bytes are left behind those of a value; below 0: it has more.
// It goes no further than that, as lists that share their parts may have far more than can be counted.
func left(v api.Value, n int) int {
	n -= head(v)
	if v.Kind != api.List && v.Kind != api.Map {
		return n
	}
	for _, x := range v.L {
		if n < 0 {
			break
		}
		n = left(x, n)
	}
	return n
}

// head is how many bytes a value has without those of its parts.
func head(v api.Value) int {
	switch v.Kind {
	case api.Null:
		return 1
	case api.Bool:
		return 2
	case api.Str:
		return 3 + len(v.S)
	case api.List, api.Map:
		return 3
	}
	return 9
}

// check tells why a value that stands so deep, counted from 1 on, may not be.
func check(v api.Value, deep int) api.Errno {
	switch {
	case deep > api.MostDeep:
		return api.ErrMost
	case !shaped(v):
		return api.ErrShape
	case len(v.S) > api.MostStr || len(v.L) > api.MostList:
		return api.ErrMost
	}
	for _, x := range v.L {
		if e := check(x, deep+1); e != api.OK {
			return e
		}
	}
	if v.Kind == api.Map && !rises(v.L) {
		return api.ErrShape
	}
	return api.OK
}

// shaped tells whether a value is of a kind, has nothing but what that has, and its id, if it is one, may be.
func shaped(v api.Value) bool {
	kind, id := v.Kind, v.N
	switch kind {
	case api.Null:
	case api.Bool:
		v.B = false
	case api.Int, api.Vertex, api.Edge:
		v.N = 0
	case api.Float:
		v.F = 0
	case api.Str:
		v.S = ""
	case api.List, api.Map:
		v.L = nil
	default:
		return false
	}
	if (kind == api.Vertex || kind == api.Edge) && id < 1 {
		return false
	}
	// By its bits, as == would take -0 for nothing.
	return !v.B && v.N == 0 && math.Float64bits(v.F) == 0 && v.S == "" && len(v.L) == 0
}

// rises tells whether a map's keys rise, and each has its value.
func rises(l []api.Value) bool {
	if len(l)%2 != 0 {
		return false
	}
	for i := 2; i < len(l); i += 2 {
		if Cmp(l[i-2], l[i]) >= 0 {
			return false
		}
	}
	return true
}
