package val_test

import (
	"math"
	"math/rand"
	"strings"
	"testing"

	"offshoot/api"
	"offshoot/val"
)

func TestNumbers(t *testing.T) {
	for _, c := range []struct {
		n uint64
		s string
	}{
		{0, "\x00\x00\x00\x00\x00\x00\x00\x00"}, {1, "\x00\x00\x00\x00\x00\x00\x00\x01"}, {0x0102030405060708, "\x01\x02\x03\x04\x05\x06\x07\x08"},
		{1 << 63, "\x80\x00\x00\x00\x00\x00\x00\x00"}, {math.MaxUint64, "\xff\xff\xff\xff\xff\xff\xff\xff"},
	} {
		if s := val.Eight(c.n); s != c.s {
			t.Errorf("Eight(%x): %q", c.n, s)
		}
		if n := val.Wide(c.s); n != c.n {
			t.Errorf("Wide(%q): %x", c.s, n)
		}
	}
	for _, c := range []struct {
		n int
		s string
	}{
		{0, "\x00\x00"}, {1, "\x00\x01"}, {0x1234, "\x12\x34"}, {65535, "\xff\xff"}, {65536, "\x00\x00"}, {0x7123456, "\x34\x56"}, {-1, "\xff\xff"}, {-2, "\xff\xfe"}, {math.MinInt, "\x00\x00"},
	} {
		if s := val.Two(c.n); s != c.s {
			t.Errorf("Two(%d): %q", c.n, s)
		}
	}
	for _, c := range []struct {
		s string
		n uint64
	}{
		{"", 0}, {"\x05", 5}, {"\x00\x05", 5}, {"\x12\x34", 0x1234}, {"\x01\x02\x03\x04\x05\x06\x07", 0x01020304050607}, {"\x01\x02\x03\x04\x05\x06\x07\x08\x09", 0x0102030405060708},
		{"\xff\x00\x00\x00\x00\x00\x00\x00\xff\xff", 0xff << 56},
	} {
		if n := val.Wide(c.s); n != c.n {
			t.Errorf("Wide(%q): %x", c.s, n)
		}
	}
}

func TestPut(t *testing.T) {
	for _, c := range []struct {
		v api.Value
		s string
	}{
		{val.None(), "\x00"}, {val.Yes(false), "\x01\x00"}, {val.Yes(true), "\x01\x01"},
		{val.Int(258), "\x02\x00\x00\x00\x00\x00\x00\x01\x02"}, {val.Int(-2), "\x02\xff\xff\xff\xff\xff\xff\xff\xfe"}, {val.Int(math.MinInt64), "\x02\x80\x00\x00\x00\x00\x00\x00\x00"},
		{val.Float(1), "\x03\x3f\xf0\x00\x00\x00\x00\x00\x00"}, {val.Float(minus0), "\x03\x80\x00\x00\x00\x00\x00\x00\x00"}, {val.Float(nan), "\x03\x7f\xf8\x00\x00\x00\x00\x00\x01"},
		{val.Text(""), "\x04\x00\x00"}, {val.Text("a\x00b"), "\x04\x00\x03a\x00b"}, {text(300), "\x04\x01\x2c" + strings.Repeat("x", 300)},
		{val.List(), "\x05\x00\x00"}, {of(api.List, val.None(), of(api.List, val.Yes(true))), "\x05\x00\x02\x00\x05\x00\x01\x01\x01"},
		{of(api.List, times(1000, val.None())...), "\x05\x03\xe8" + strings.Repeat("\x00", 1000)},
		{of(api.Map), "\x06\x00\x00"}, {of(api.Map, val.None(), val.Text("v"), val.Yes(true), val.None()), "\x06\x00\x04\x00\x04\x00\x01v\x01\x01\x00"},
		{val.Vertex(1), "\x07\x00\x00\x00\x00\x00\x00\x00\x01"}, {val.Edge(math.MaxInt64), "\x08\x7f\xff\xff\xff\xff\xff\xff\xff"},
	} {
		if s, e := val.Put(c.v); s != c.s || e != api.OK {
			t.Errorf("Put(%v): %q, %d", c.v, s, e)
		}
		if v, n, e := val.Get(c.s); !alike(v, c.v) || n != len(c.s) || e != api.OK {
			t.Errorf("Get(%q): %v, %d, %d", c.s, v, n, e)
		}
	}
	if s, e := val.Put(api.Value{Kind: api.Float, F: odd}); s != "\x03\x7f\xf8\x00\x00\x00\x00\x00\x01" || e != api.OK {
		t.Errorf("a float that Canon changes: %q, %d", s, e)
	}
}

// TestPutGet: what was put is got again, with bytes behind it, and is cut wherever it ends sooner.
func TestPutGet(t *testing.T) {
	for i, v := range good() {
		s, e := val.Put(v)
		if e != api.OK {
			t.Fatal(i, e)
		}
		for _, tail := range []string{"", "\x00", "\xff\xff\xff", strings.Repeat("x", api.MostBytes)} {
			if w, n, e := val.Get(s + tail); !alike(v, w) || n != len(s) || e != api.OK {
				t.Errorf("%d: %d of %d bytes, %d", i, n, len(s), e)
			}
		}
		for cut := range min(len(s), 600) {
			wantError(t, s[:cut], api.ErrCut)
		}
		wantError(t, s[:len(s)-1], api.ErrCut)
	}
}

func wantError(t *testing.T, s string, want api.Errno) {
	t.Helper()
	if v, n, e := val.Get(s); e != want || n != 0 || !alike(v, api.Value{}) {
		t.Errorf("Get(%.40q), of %d bytes: %v, %d, %d; must be %d", s, len(s), v, n, e, want)
	}
}

// lists begins so many lists of one part within one another.
func lists(n int) string { return strings.Repeat("\x05\x00\x01", n) }

func put(t *testing.T, v api.Value) string {
	t.Helper()
	s, e := val.Put(v)
	if e != api.OK {
		t.Fatal(v, e)
	}
	return s
}

func TestGetBad(t *testing.T) {
	one, two := put(t, val.Int(1)), put(t, val.Int(2))
	for _, c := range []struct {
		name, s string
		e       api.Errno
	}{
		{"no bytes", "", api.ErrCut},
		{"a kind that is none", "\x09", api.ErrShape},
		{"a kind of the highest byte", "\xff\x00\x00", api.ErrShape},
		{"a bool of 2", "\x01\x02", api.ErrShape},
		{"a bool of ff", "\x01\xff", api.ErrShape},
		{"the vertex 0", "\x07" + val.Eight(0), api.ErrShape},
		{"a vertex below 0", "\x07" + val.Eight(1<<63), api.ErrShape},
		{"the edge 0", "\x08" + val.Eight(0), api.ErrShape},
		{"an edge below 0", "\x08" + val.Eight(math.MaxUint64), api.ErrShape},
		{"a vertex that is cut", "\x07" + val.Eight(0)[1:], api.ErrCut},
		{"a float that Canon would change", "\x03" + val.Eight(0x7ff8000000000002), api.ErrShape},
		{"one below 0", "\x03" + val.Eight(0xfff8000000000001), api.ErrShape},
		{"a loud one", "\x03" + val.Eight(0x7ff0000000000001), api.ErrShape},
		{"a text too long", "\x04" + val.Two(501) + strings.Repeat("x", 501), api.ErrMost},
		{"a text of all that two bytes say", "\x04\xff\xff" + strings.Repeat("x", 65535), api.ErrMost},
		{"a text too long that is cut, too", "\x04" + val.Two(501) + strings.Repeat("x", 500), api.ErrCut},
		{"a list too long", "\x05" + val.Two(1001) + strings.Repeat("\x00", 1001), api.ErrMost},
		{"a map too long", "\x06" + val.Two(1002) + strings.Repeat(one, 1002), api.ErrMost},
		{"long ahead of a part's shape", "\x05" + val.Two(1001) + strings.Repeat("\x09", 1001), api.ErrMost},
		{"too deep", lists(api.MostDeep) + "\x00", api.ErrMost},
		{"deep ahead of cut", lists(api.MostDeep), api.ErrMost},
		{"deep ahead of shape", lists(api.MostDeep) + "\x09", api.ErrMost},
		{"as deep as may be, and cut", lists(api.MostDeep - 1), api.ErrCut},
		{"too deep by far", lists(1 << 16), api.ErrMost},
		{"keys that fall", "\x06\x00\x04" + two + "\x00" + one + "\x00", api.ErrShape},
		{"a key twice", "\x06\x00\x04" + one + "\x00" + one + "\x00", api.ErrShape},
		{"a key without a value", "\x06\x00\x01" + one, api.ErrShape},
		{"a last key without a value", "\x06\x00\x03" + one + one + two, api.ErrShape},
		{"a key without a value, and cut", "\x06\x00\x03" + one + one, api.ErrCut},
		{"cut ahead of keys", "\x06\x00\x04" + two + "\x00" + one, api.ErrCut},
		{"a part's error ahead of keys", "\x06\x00\x04" + two + "\x00" + one + "\x04\x01\xf5" + strings.Repeat("x", 501), api.ErrMost},
		{"the first part: shape", "\x05\x00\x02\x09\x04\x01\xf5" + strings.Repeat("x", 501), api.ErrShape},
		{"the first part: long", "\x05\x00\x02\x04\x01\xf5" + strings.Repeat("x", 501) + "\x09", api.ErrMost},
		{"the first part: a map's keys", "\x05\x00\x02\x06\x00\x01\x00", api.ErrShape},
	} {
		t.Run(c.name, func(t *testing.T) { wantError(t, c.s, c.e) })
	}
}

// TestGetBytes: values of too many bytes are read to their end, and then are too many.
func TestGetBytes(t *testing.T) {
	long := put(t, text(api.MostStr))
	full := "\x05" + val.Two(120) + strings.Repeat(long, 119) // 59860 bytes, and one more part
	if v, n, e := val.Get(full + put(t, text(137))); e != api.OK || n != api.MostBytes || len(v.L) != 120 {
		t.Error(n, e)
	}
	wantError(t, full+put(t, text(138)), api.ErrMost)
	wantError(t, full+long, api.ErrMost)
	wantError(t, full+put(t, text(138))[:140], api.ErrCut)
	more := "\x05" + val.Two(122) + strings.Repeat(long, 121)
	wantError(t, more, api.ErrCut)
	wantError(t, more+"\x09", api.ErrShape)
	wantError(t, more+"\x06\x00\x01\x00", api.ErrShape)
	wantError(t, more+"\x00", api.ErrMost)
}

// TestGetAny: whatever bytes come, what is got may be, and has just the bytes that were read.
func TestGetAny(t *testing.T) {
	r := rand.New(rand.NewSource(1))
	for range 50000 {
		b := make([]byte, r.Intn(40))
		for i := range b {
			b[i] = byte(r.Intn(10))
			if r.Intn(3) > 0 {
				b[i] = byte(r.Intn(3))
			}
		}
		s := string(b)
		v, n, e := val.Get(s)
		if e != api.OK {
			wantError(t, s, e)
			continue
		}
		if p, e := val.Put(v); e != api.OK || p != s[:n] {
			t.Fatalf("%q: %v, %d bytes; put: %q, %d", s, v, n, p, e)
		}
	}
}
