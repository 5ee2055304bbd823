package key_test

import (
	"math"
	"math/rand"
	"strings"
	"testing"

	"offshoot/api"
	"offshoot/key"
	"offshoot/val"
)

func wantKey(t *testing.T, v api.Value, want string) {
	t.Helper()
	if k := key.Of(v); k != want {
		t.Errorf("Of(%v): %x, must be %x", v, k, want)
	}
}

func TestOf(t *testing.T) {
	a := val.Text("a")
	for _, c := range []struct {
		v api.Value
		k string
	}{
		{val.None(), "\x01"}, {val.Yes(false), "\x02\x00"}, {val.Yes(true), "\x02\x01"},
		{val.Text(""), "\x05\x00\x00"}, {a, "\x05a\x00\x00"}, {val.Text("a\x01\xff"), "\x05a\x01\xff\x00\x00"},
		{val.Text("\x00"), "\x05\x00\x01\x00\x00"}, {val.Text("\x00\x01"), "\x05\x00\x01\x01\x00\x00"}, {val.Text("\x00\x00"), "\x05\x00\x01\x00\x01\x00\x00"}, {val.Text("a\x00b\x00"), "\x05a\x00\x01b\x00\x01\x00\x00"},
		{of(5), "\x06\x00"}, {of(5, val.None()), "\x06\x01\x01\x00"}, {of(5, val.Yes(true), val.Yes(false)), "\x06\x01\x02\x01\x01\x02\x00\x00"},
		{of(5, a, val.Text("")), "\x06\x01\x05a\x00\x00\x01\x05\x00\x00\x00"},
		{of(5, of(5), of(5, of(5, a))), "\x06\x01\x06\x00\x01\x06\x01\x06\x01\x05a\x00\x00\x00\x00\x00"},
		{of(6), "\x07\x00"}, {of(6, a, val.None()), "\x07\x01\x05a\x00\x00\x01\x01\x00"}, {of(6, val.None(), of(5), val.Yes(true), of(6)), "\x07\x01\x01\x01\x06\x00\x01\x02\x01\x01\x07\x00\x00"},
		{of(5, of(6)), "\x06\x01\x07\x00\x00"},
		{val.Vertex(1), "\x08\x00\x00\x00\x00\x00\x00\x00\x01"}, {val.Vertex(0x0102030405060708), "\x08\x01\x02\x03\x04\x05\x06\x07\x08"}, {val.Vertex(math.MaxInt64), "\x08\x7f\xff\xff\xff\xff\xff\xff\xff"},
		{val.Edge(1), "\x09\x00\x00\x00\x00\x00\x00\x00\x01"}, {val.Edge(math.MaxInt64), "\x09\x7f\xff\xff\xff\xff\xff\xff\xff"},
		{of(5, val.Vertex(2), val.Edge(3)), "\x06\x01\x08\x00\x00\x00\x00\x00\x00\x00\x02\x01\x09\x00\x00\x00\x00\x00\x00\x00\x03\x00"},
		{of(5, val.Int(0), val.Float(0)), "\x06\x01\x03\x80\x00\x00\x00\x00\x00\x00\x00\x00\x00\x02\x01\x03\x80\x00\x00\x00\x00\x00\x00\x00\x00\x00\x03\x00"},
	} {
		wantKey(t, c.v, c.k)
	}
}

func TestInts(t *testing.T) {
	for _, c := range []struct {
		n    int64
		f    uint64
		over int
	}{
		{0, 0x8000000000000000, 0}, {1, 0xbff0000000000000, 0}, {2, 0xc000000000000000, 0}, {-1, 0x400fffffffffffff, 0}, {-2, 0x3fffffffffffffff, 0},
		{1<<53 - 1, 0xc33fffffffffffff, 0}, {1 << 53, 0xc340000000000000, 0}, {1<<53 + 1, 0xc340000000000000, 1}, {1<<53 + 2, 0xc340000000000001, 0}, {1<<53 + 3, 0xc340000000000001, 1},
		{-1<<53 + 1, 0x3cc0000000000000, 0}, {-1 << 53, 0x3cbfffffffffffff, 0}, {-1<<53 - 1, 0x3cbffffffffffffe, 1}, {-1<<53 - 2, 0x3cbffffffffffffe, 0}, {-1<<53 - 3, 0x3cbffffffffffffd, 1},
		{math.MaxInt64, 0xc3dfffffffffffff, 1023}, {math.MaxInt64 - 1, 0xc3dfffffffffffff, 1022}, {math.MaxInt64 - 255, 0xc3dfffffffffffff, 768}, {math.MaxInt64 - 1023, 0xc3dfffffffffffff, 0}, {math.MaxInt64 - 1024, 0xc3dffffffffffffe, 1023},
		{math.MinInt64, 0x3c1fffffffffffff, 0}, {math.MinInt64 + 1, 0x3c1fffffffffffff, 1}, {math.MinInt64 + 1023, 0x3c1fffffffffffff, 1023}, {math.MinInt64 + 1024, 0x3c20000000000000, 0},
	} {
		wantKey(t, val.Int(c.n), "\x03"+wide(c.f, 8)+wide(uint64(c.over), 2)+"\x02")
	}
}

func TestFloats(t *testing.T) {
	for _, c := range []struct {
		f float64
		k uint64
	}{
		{minus0, 0x7fffffffffffffff}, {0, 0x8000000000000000}, {1, 0xbff0000000000000}, {-1, 0x400fffffffffffff}, {0.5, 0xbfe0000000000000}, {-0.5, 0x401fffffffffffff},
		{math.SmallestNonzeroFloat64, 0x8000000000000001}, {-math.SmallestNonzeroFloat64, 0x7ffffffffffffffe},
		{1<<53 - 1, 0xc33fffffffffffff}, {1 << 53, 0xc340000000000000}, {1<<53 + 2, 0xc340000000000001}, {1 << 63, 0xc3e0000000000000}, {-1 << 63, 0x3c1fffffffffffff},
		{inf, 0xfff0000000000000}, {-inf, 0x000fffffffffffff}, {nan, 0xfff8000000000001},
		{math.Float64frombits(0x7ff8000000000002), 0xfff8000000000001}, {math.Float64frombits(0x7ff0000000000001), 0xfff8000000000001}, {math.Float64frombits(0xfff8000000000001), 0xfff8000000000001}, {math.Float64frombits(math.MaxUint64), 0xfff8000000000001},
	} {
		wantKey(t, api.Value{Kind: api.Float, F: c.f}, "\x03"+wide(c.k, 8)+"\x00\x00\x03")
	}
}

// TestForm: all values are held against the chapter's words, told once more.
func TestForm(t *testing.T) {
	for _, v := range all() {
		if e := val.Check(v); e != api.OK {
			t.Fatalf("%v may not be: %d", v, e)
		}
		wantKey(t, v, form(v))
		wantKey(t, of(5, v, v), "\x06\x01"+form(v)+"\x01"+form(v)+"\x00")
		wantKey(t, of(6, val.None(), v), "\x07\x01\x01\x01"+form(v)+"\x00")
	}
	r := rand.New(rand.NewSource(1))
	for range 20000 {
		v := some(r, 4)
		wantKey(t, v, form(v))
	}
}

// TestFormOfNumbers: of each size of an int64, above and below 0.
func TestFormOfNumbers(t *testing.T) {
	r := rand.New(rand.NewSource(2))
	for range 100000 {
		v := val.Int(int64(r.Uint64()) >> r.Intn(64))
		wantKey(t, v, form(v))
		v = val.Float(math.Float64frombits(r.Uint64()))
		wantKey(t, v, form(v))
	}
}

func TestLong(t *testing.T) {
	full := strings.Repeat("\x00", api.MostStr)
	wantKey(t, val.Text(full), "\x05"+strings.Repeat("\x00\x01", api.MostStr)+"\x00\x00")
	l := make([]api.Value, api.MostList)
	wantKey(t, of(5, l...), "\x06"+strings.Repeat("\x01\x01", api.MostList)+"\x00")
	for _, n := range []int{api.MostStr + 1, 65535, 65536, api.MostBytes + 1} {
		s := strings.Repeat("x", n)
		wantKey(t, val.Text(s), "\x05"+s+"\x00\x00")
	}
}

// TestOnlyItsOwn: only what a value's kind has counts.
func TestOnlyItsOwn(t *testing.T) {
	full := api.Value{B: true, N: 5, F: 2.5, S: "s", L: []api.Value{val.Int(1)}}
	for _, bare := range []api.Value{val.None(), val.Yes(true), val.Int(5), val.Float(2.5), val.Text("s"), val.List(val.Int(1)), of(6, val.Int(1)), val.Vertex(5), val.Edge(5)} {
		full.Kind = bare.Kind
		wantKey(t, full, form(bare))
	}
	wantKey(t, api.Value{Kind: api.List, L: []api.Value{}}, "\x06\x00")
	wantKey(t, api.Value{Kind: api.Map, L: []api.Value{}}, "\x07\x00")
}

// TestWild: values that may not be have keys, too, as the words tell.
func TestWild(t *testing.T) {
	for _, c := range []struct {
		v api.Value
		k string
	}{
		{val.Vertex(0), "\x08" + wide(0, 8)}, {val.Vertex(-1), "\x08" + wide(math.MaxUint64, 8)}, {val.Edge(math.MinInt64), "\x09" + wide(1<<63, 8)},
		{of(6, val.None()), "\x07\x01\x01\x00"}, {of(6, val.Yes(true), val.None(), val.Yes(false)), "\x07\x01\x02\x01\x01\x01\x01\x02\x00\x00"},
		{api.Value{Kind: 9, N: 5}, "\x0a"}, {api.Value{Kind: 254, S: "s"}, "\xff"}, {api.Value{Kind: -1, N: 5}, "\x00"},
		{of(5, api.Value{Kind: 9}, val.None()), "\x06\x01\x0a\x01\x01\x00"},
	} {
		wantKey(t, c.v, c.k)
	}
	for _, kind := range []int{math.MinInt, -256, 255, 256, 1000, math.MaxInt - 1, math.MaxInt} {
		if k := key.Of(api.Value{Kind: kind}); len(k) != 1 {
			t.Errorf("of the kind %d: %x", kind, k)
		}
	}
}

func TestDeep(t *testing.T) {
	n := 1<<16 - 1
	wantDeep := "\x06" + strings.Repeat("\x01\x06", n-1) + "\x01\x05a\x00\x00" + strings.Repeat("\x00", n)
	if k := key.Of(inLists(n, val.Text("a"))); k != wantDeep {
		t.Errorf("%d bytes, must be %d", len(k), len(wantDeep))
	}
}

// TestOwn: what is handed in is as it was; what is told is not changed by what is done to that later.
func TestOwn(t *testing.T) {
	inner := []api.Value{val.Text("a\x00"), {Kind: api.Float, F: math.Float64frombits(0x7ff8000000000002)}}
	l := []api.Value{of(5, inner...), val.Int(3)}
	k := key.Of(of(5, l...))
	was := strings.Clone(k)
	if len(inner) != 2 || inner[0].S != "a\x00" || math.Float64bits(inner[1].F) != 0x7ff8000000000002 || len(l) != 2 || l[1].N != 3 {
		t.Error("what was handed in is changed", l)
	}
	inner[0], l[1] = val.None(), val.None()
	if k != was || key.Of(of(5, l...)) == was {
		t.Error("a key hangs on what is done to the value later")
	}
	for range 10 {
		for _, v := range all() {
			if key.Of(v) != key.Of(v) {
				t.Errorf("Of(%v) is not always the same", v)
			}
		}
	}
}

func TestName(t *testing.T) {
	for _, c := range []struct{ s, k string }{
		{"", "\x00\x00"}, {"a", "a\x00\x00"}, {"knows_2", "knows_2\x00\x00"}, {"\x00", "\x00\x01\x00\x00"}, {"\x00\x00", "\x00\x01\x00\x01\x00\x00"}, {"a\x00b", "a\x00\x01b\x00\x00"},
		{"a\x00", "a\x00\x01\x00\x00"}, {"\x00\x01", "\x00\x01\x01\x00\x00"}, {"\x01\x00", "\x01\x00\x01\x00\x00"}, {"\xff", "\xff\x00\x00"}, {"é", "\xc3\xa9\x00\x00"},
	} {
		if k := key.Name(c.s); k != c.k {
			t.Errorf("Name(%q): %x, must be %x", c.s, k, c.k)
		}
	}
	for _, s := range append(texts(), strings.Repeat("\x00", 65536)) {
		if k := key.Name(s); k != spelt(s) || "\x05"+k != key.Of(val.Text(s)) {
			t.Errorf("Name(%q): %x", s, k)
		}
	}
}

func TestID(t *testing.T) {
	for _, c := range []struct {
		n int64
		k string
	}{
		{0, "\x00\x00\x00\x00\x00\x00\x00\x00"}, {1, "\x00\x00\x00\x00\x00\x00\x00\x01"}, {255, "\x00\x00\x00\x00\x00\x00\x00\xff"}, {256, "\x00\x00\x00\x00\x00\x00\x01\x00"}, {0x0102030405060708, "\x01\x02\x03\x04\x05\x06\x07\x08"},
		{math.MaxInt64, "\x7f\xff\xff\xff\xff\xff\xff\xff"}, {math.MaxInt64 - 1, "\x7f\xff\xff\xff\xff\xff\xff\xfe"},
		{-1, "\xff\xff\xff\xff\xff\xff\xff\xff"}, {math.MinInt64, "\x80\x00\x00\x00\x00\x00\x00\x00"}, {math.MinInt64 + 1, "\x80\x00\x00\x00\x00\x00\x00\x01"},
	} {
		if k := key.ID(c.n); k != c.k {
			t.Errorf("ID(%d): %x", c.n, k)
		}
	}
	for _, n := range ids() {
		if k := key.ID(n); "\x08"+k != key.Of(val.Vertex(n)) || "\x09"+k != key.Of(val.Edge(n)) {
			t.Errorf("ID(%d): %x", n, k)
		}
	}
}
