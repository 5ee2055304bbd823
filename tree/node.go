package tree

import (
	"slices"
	"strings"

	"offshoot/api"
	"offshoot/val"
)

const (
	countBytes  = 2 // that say how many keys and how many kids there are
	lengthBytes = 1 // ahead of a key
	numberBytes = 8 // of a kid
)

// node is keys, and the kids beside them. It is never changed, as walks keep it: who changes one makes another one.
type node struct {
	keys []string
	kids []uint64 // none: it is a leaf
}

func (n node) leaf() bool { return len(n.kids) == 0 }

// find is where a key is, or would be: the kid at that place is the one below which it would be; and whether it is there.
func (n node) find(k string) (int, bool) { return slices.BinarySearch(n.keys, k) }

// with is a node that has a key more, and right of it a kid more, if it has kids.
func (n node) with(at int, k string, kid uint64) node {
	more := node{keys: slices.Insert(slices.Clone(n.keys), at, k)}
	if !n.leaf() {
		more.kids = slices.Insert(slices.Clone(n.kids), at+1, kid)
	}
	return more
}

// without is a node that has a key less, and a kid less, if it has kids.
func (n node) without(at, kid int) node {
	less := node{keys: slices.Delete(slices.Clone(n.keys), at, at+1)}
	if !n.leaf() {
		less.kids = slices.Delete(slices.Clone(n.kids), kid, kid+1)
	}
	return less
}

// instead is a node that has another key in one's place.
func (n node) instead(at int, k string) node {
	keys := slices.Clone(n.keys)
	keys[at] = k
	return node{keys: keys, kids: n.kids}
}

// halves are what is left and right of the key in the middle, and that key.
func (n node) halves() (node, string, node) {
	at := len(n.keys) / 2
	left, right := node{keys: n.keys[:at]}, node{keys: n.keys[at+1:]}
	if !n.leaf() {
		left.kids, right.kids = n.kids[:at+1], n.kids[at+1:]
	}
	return left, n.keys[at], right
}

// Encode is a node's bytes.
func Encode(keys []string, kids []uint64) string {
	var b strings.Builder
	b.WriteByte(byte(len(keys)))
	b.WriteByte(byte(len(kids)))
	for _, k := range keys {
		b.WriteByte(byte(len(k)))
		b.WriteString(k)
	}
	for _, id := range kids {
		b.WriteString(val.Eight(id))
	}
	return b.String()
}

// Decode is the keys and the kids of a node's bytes.
func Decode(s string) ([]string, []uint64, api.Errno) {
	if len(s) < countBytes {
		return nil, nil, api.ErrCut
	}
	n, below := int(s[0]), int(s[1])
	if n == 0 || n > api.MostKeys || below != 0 && below != n+1 {
		return nil, nil, api.ErrShape
	}
	keys, rest, e := readKeys(s[countBytes:], n)
	if e != api.OK {
		return nil, nil, e
	}
	kids, e := readKids(rest, below)
	if e != api.OK {
		return nil, nil, e
	}
	return keys, kids, api.OK
}

// readKeys is the keys at the beginning of bytes, and what is behind them.
func readKeys(s string, n int) ([]string, string, api.Errno) {
	var l []string
	for i := range n {
		if len(s) < lengthBytes || len(s) < lengthBytes+int(s[0]) {
			return nil, "", api.ErrCut
		}
		end := lengthBytes + int(s[0])
		k := s[lengthBytes:end]
		if len(k) > api.MostKey || i > 0 && k <= l[i-1] {
			return nil, "", api.ErrShape
		}
		l, s = append(l, strings.Clone(k)), s[end:]
	}
	return l, s, api.OK
}

// readKids is the kids whose numbers bytes are, and no more.
func readKids(s string, n int) ([]uint64, api.Errno) {
	switch {
	case len(s) < n*numberBytes:
		return nil, api.ErrCut
	case len(s) > n*numberBytes:
		return nil, api.ErrTail
	}
	var l []uint64
	for ; s != ""; s = s[numberBytes:] {
		l = append(l, val.Wide(s))
	}
	return l, api.OK
}
