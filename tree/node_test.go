package tree_test

import (
	"math"
	"slices"
	"strings"
	"testing"
	"unsafe"

	"offshoot/api"
	"offshoot/tree"
)

// shape is a node and its bytes, written out.
type shape struct {
	keys []string
	kids []uint64
	s    string
}

func shapes() []shape {
	most := strings.Repeat("\xff", 90)
	return []shape{
		{[]string{"a"}, nil, "\x01\x00" + "\x01a"},
		{[]string{""}, nil, "\x01\x00" + "\x00"},
		{[]string{"", "\x00"}, nil, "\x02\x00" + "\x00" + "\x01\x00"},
		{[]string{"a", "b", "c"}, nil, "\x03\x00" + "\x01a" + "\x01b" + "\x01c"},
		{[]string{"a", "a\x00", "aa", "b"}, nil, "\x04\x00" + "\x01a" + "\x02a\x00" + "\x02aa" + "\x01b"},
		{[]string{"\x7f", "\x80", "\xff"}, nil, "\x03\x00" + "\x01\x7f" + "\x01\x80" + "\x01\xff"},
		{[]string{long(90)}, nil, "\x01\x00" + "\x5a" + long(90)},
		{[]string{long(89), long(90), most[:89], most}, nil, "\x04\x00" + "\x59" + long(89) + "\x5a" + long(90) + "\x59" + most[:89] + "\x5a" + most},
		{[]string{"a"}, []uint64{1, 2}, "\x01\x02" + "\x01a" + "\x00\x00\x00\x00\x00\x00\x00\x01" + "\x00\x00\x00\x00\x00\x00\x00\x02"},
		{[]string{"key"}, []uint64{0x0102030405060708, math.MaxUint64}, "\x01\x02" + "\x03key" + "\x01\x02\x03\x04\x05\x06\x07\x08" + "\xff\xff\xff\xff\xff\xff\xff\xff"},
		{[]string{"", "x"}, []uint64{256, 3, 2}, "\x02\x03" + "\x00" + "\x01x" + "\x00\x00\x00\x00\x00\x00\x01\x00" + "\x00\x00\x00\x00\x00\x00\x00\x03" + "\x00\x00\x00\x00\x00\x00\x00\x02"},
		{[]string{"a", "b", "c"}, []uint64{9, 9, 1 << 63, 0}, "\x03\x04" + "\x01a" + "\x01b" + "\x01c" + strings.Repeat("\x00\x00\x00\x00\x00\x00\x00\x09", 2) + "\x80\x00\x00\x00\x00\x00\x00\x00" + strings.Repeat("\x00", 8)},
		{[]string{"a", "b", "c", long(90)}, []uint64{1, 2, 3, 4, 5}, "\x04\x05" + "\x01a" + "\x01b" + "\x01c" + "\x5a" + long(90) + form(nil, 1, 2, 3, 4, 5)[2:]},
	}
}

func TestEncode(t *testing.T) {
	for _, c := range shapes() {
		if s := tree.Encode(c.keys, c.kids); s != c.s {
			t.Errorf("Encode(%q, %d): %q, must be %q", c.keys, c.kids, s, c.s)
		}
		if form(c.keys, c.kids...) != c.s {
			t.Errorf("%q, %d: other bytes", c.keys, c.kids)
		}
	}
	if s := tree.Encode([]string{"a"}, []uint64{}); s != "\x01\x00\x01a" {
		t.Errorf("Encode of an empty list of kids: %q", s)
	}
}

// TestEncodeWrong: what is no node has bytes by the same words, as far as a byte can say it, and Encode ends.
func TestEncodeWrong(t *testing.T) {
	for _, c := range []shape{
		{nil, nil, "\x00\x00"},
		{nil, []uint64{7}, "\x00\x01" + form(nil, 7)[2:]},
		{each("abcde"), nil, "\x05\x00" + "\x01a\x01b\x01c\x01d\x01e"},
		{each("ba"), nil, "\x02\x00" + "\x01b\x01a"},
		{each("a"), []uint64{1}, "\x01\x01" + "\x01a" + form(nil, 1)[2:]},
		{[]string{long(91)}, nil, "\x01\x00" + "\x5b" + long(91)},
		{[]string{long(255)}, nil, "\x01\x00" + "\xff" + long(255)},
	} {
		if s := tree.Encode(c.keys, c.kids); s != c.s {
			t.Errorf("Encode(%q, %d): %q, must be %q", c.keys, c.kids, s, c.s)
		}
	}
	tree.Encode([]string{long(256), long(70000)}, nil)
	tree.Encode(make([]string, 300), make([]uint64, 300))
}

// reads holds that bytes are those of such a node.
func reads(t *testing.T, s string, keys []string, kids []uint64) {
	t.Helper()
	k, l, e := tree.Decode(s)
	if e != api.OK || !slices.Equal(k, keys) || !slices.Equal(l, kids) {
		t.Errorf("Decode(%q): %q, %d, %d; must be %q, %d", s, k, l, e, keys, kids)
	}
}

// refuses holds that bytes are no node's, by such an error.
func refuses(t *testing.T, s string, want api.Errno) {
	t.Helper()
	if k, l, e := tree.Decode(s); len(k) != 0 || len(l) != 0 || e != want {
		t.Errorf("Decode(%q): %q, %d, %d; must be %d", s, k, l, e, want)
	}
}

func TestDecode(t *testing.T) {
	for _, c := range shapes() {
		reads(t, c.s, c.keys, c.kids)
	}
}

// TestDecodeCut: bytes that end anywhere ahead of their end are cut; with more behind it they have a tail.
func TestDecodeCut(t *testing.T) {
	for _, c := range shapes() {
		for n := range len(c.s) {
			refuses(t, c.s[:n], api.ErrCut)
		}
		for _, more := range []string{"\x00", "\xff", "\x01a", strings.Repeat("\x00", 8), c.s} {
			refuses(t, c.s+more, api.ErrTail)
		}
	}
	for _, s := range []string{"", "\x00", "\x01", "\x05", "\xff"} {
		refuses(t, s, api.ErrCut)
	}
}

// TestDecodeCounts: of all that two bytes can say, 1 to 4 keys may be, and no kid, or one more than keys.
func TestDecodeCounts(t *testing.T) {
	for n := range 256 {
		for kids := range 256 {
			var l []string
			for i := range n {
				l = append(l, string([]byte{byte(i)}))
			}
			s := form(l, make([]uint64, kids)...)
			if n >= 1 && n <= 4 && (kids == 0 || kids == n+1) {
				reads(t, s, l, make([]uint64, kids))
				continue
			}
			refuses(t, s, api.ErrShape)
			refuses(t, s+"tail", api.ErrShape)
			// Counts are told ahead of what they count, and so ahead of where that ends.
			refuses(t, s[:2], api.ErrShape)
		}
	}
}

// TestDecodeLong: a key that is too long, by all lengths that a byte can say.
func TestDecodeLong(t *testing.T) {
	for n := 91; n < 256; n++ {
		for _, c := range []struct {
			s   string
			end int // of the key that is too long
		}{
			{form([]string{long(n)}), 3 + n},
			{form([]string{"a", long(n)}), 5 + n},
			{form([]string{long(n), "l"}), 3 + n},
			{form([]string{"a", "b", "c", long(n)}, 1, 2, 3, 4, 5), 9 + n},
		} {
			refuses(t, c.s, api.ErrShape)
			refuses(t, c.s+"tail", api.ErrShape)
			refuses(t, c.s[:c.end], api.ErrShape)
			// Of one that is cut, too, that is told which is named first.
			refuses(t, c.s[:c.end-1], api.ErrCut)
			refuses(t, c.s[:c.end-n], api.ErrCut)
		}
	}
	reads(t, form([]string{"a", long(90)}), []string{"a", long(90)}, nil)
}

// TestDecodeRises: a key that is not above the one ahead of it.
func TestDecodeRises(t *testing.T) {
	for _, l := range [][]string{
		{"a", "a"}, {"b", "a"}, {"", ""}, {"a", ""}, {"aa", "a"}, {"\x80", "\x7f"}, {"a\x00", "a"}, {"ab", "aab"},
		{"a", "b", "b"}, {"a", "c", "b"}, {"b", "c", "a"}, {"a", "b", "c", "c"}, {"a", "b", "d", "c"}, {"b", "a", "c", "d"}, {"a", "a", "c", "d"},
	} {
		s := form(l)
		refuses(t, s, api.ErrShape)
		refuses(t, s+"tail", api.ErrShape)
		refuses(t, form(l, make([]uint64, len(l)+1)...), api.ErrShape)
		refuses(t, form(l, make([]uint64, len(l)+1)...)[:len(s)], api.ErrShape)
	}
	// The first error is that of what stands first.
	s := of("bacd")
	refuses(t, s[:6], api.ErrShape)
	refuses(t, s[:5], api.ErrCut)
	refuses(t, of("abdc")[:8], api.ErrCut)
	refuses(t, form([]string{"b", long(91), "a"})[:96], api.ErrShape)
	refuses(t, form([]string{"b", "a", long(91)})[:20], api.ErrShape)
}

// TestDecodeOwn: what is answered shares no bytes with what was handed in.
func TestDecodeOwn(t *testing.T) {
	b := []byte(of("ab", 1, 2, 3))
	k, l, e := tree.Decode(unsafe.String(&b[0], len(b)))
	if e != api.OK {
		t.Fatal(e)
	}
	clear(b)
	if !slices.Equal(k, each("ab")) || !slices.Equal(l, []uint64{1, 2, 3}) {
		t.Errorf("behind a change of the bytes: %q, %d", k, l)
	}
	b = []byte("key")
	s := tree.Encode([]string{unsafe.String(&b[0], len(b))}, nil)
	clear(b)
	if s != form([]string{"key"}) {
		t.Errorf("behind a change of a key: %q", s)
	}
}

// TestDecodeAny: all short bytes are read, or refused by their first error.
func TestDecodeAny(t *testing.T) {
	for _, a := range []byte{0, 1, 2, 3, 5} {
		for _, b := range []byte{0, 1, 2, 3} {
			for _, c := range []byte{0, 1, 2, 91} {
				for _, d := range []byte{0, 1, 2, 90, 91} {
					for _, tail := range []string{"", "\x00", "\x01\x00", "\x00\x01\x01", long(91), strings.Repeat("\x00", 17), strings.Repeat("\x01", 24)} {
						s := string([]byte{a, b, c, d}) + tail
						for n := range len(s) + 1 {
							keys, kids, e := tree.Decode(s[:n])
							if want := firstError(s[:n]); e != want {
								t.Errorf("Decode(%q): %d, must be %d", s[:n], e, want)
							}
							if e == api.OK && tree.Encode(keys, kids) != s[:n] {
								t.Errorf("Decode(%q): of other bytes", s[:n])
							}
						}
					}
				}
			}
		}
	}
}

// firstError goes over bytes as they would be read.
func firstError(s string) api.Errno {
	if len(s) < 2 {
		return api.ErrCut
	}
	n, kids, at, last := int(s[0]), int(s[1]), 2, ""
	if n < 1 || n > 4 || kids != 0 && kids != n+1 {
		return api.ErrShape
	}
	for i := range n {
		if at >= len(s) || at+1+int(s[at]) > len(s) {
			return api.ErrCut
		}
		k := s[at+1 : at+1+int(s[at])]
		if len(k) > 90 || i > 0 && !below(last, k) {
			return api.ErrShape
		}
		at, last = at+1+len(k), k
	}
	switch at += 8 * kids; {
	case at > len(s):
		return api.ErrCut
	case at < len(s):
		return api.ErrTail
	}
	return api.OK
}
