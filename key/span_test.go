package key_test

import (
	"strings"
	"testing"

	"offshoot/api"
	"offshoot/key"
	"offshoot/val"
)

func TestBegin(t *testing.T) {
	for _, c := range []struct{ s, high string }{
		{"", ""}, {"a", "b"}, {"ab", "ac"}, {"a\x00", "a\x01"}, {"\x00", "\x01"}, {"\x00\x00", "\x00\x01"}, {"\xfe", "\xff"}, {"a\xfe", "a\xff"}, {"\x7f", "\x80"}, {"\xc3\xa9", "\xc3\xaa"},
		{"a\xff", "b"}, {"a\xff\xff\xff", "b"}, {"ab\xff", "ac"}, {"\xfe\xff", "\xff"}, {"\xff\xfe", "\xff\xff"}, {"\xff\x00", "\xff\x01"}, {"\xffa\xff\xff", "\xffb"}, {"\x00\xff", "\x01"}, {"a\xffb", "a\xffc"},
		{"\xff", ""}, {"\xff\xff", ""}, {"\xff\xff\xff", ""},
		{strings.Repeat("a", 500), strings.Repeat("a", 499) + "b"}, {"a" + strings.Repeat("\xff", 100000), "b"}, {strings.Repeat("\xff", 100000), ""},
	} {
		if s := key.Begin(c.s); s.Low != c.s || s.High != c.high {
			t.Errorf("Begin(%.40q): %.40q to %.40q, must be to %.40q", c.s, s.Low, s.High, c.high)
		}
	}
}

func TestIn(t *testing.T) {
	for _, c := range []struct {
		s  api.Span
		k  string
		in bool
	}{
		{api.Span{Low: "b", High: "d"}, "a", false}, {api.Span{Low: "b", High: "d"}, "a\xff\xff", false}, {api.Span{Low: "b", High: "d"}, "", false},
		{api.Span{Low: "b", High: "d"}, "b", true}, {api.Span{Low: "b", High: "d"}, "b\x00", true}, {api.Span{Low: "b", High: "d"}, "c", true}, {api.Span{Low: "b", High: "d"}, "c\xff\xff", true},
		{api.Span{Low: "b", High: "d"}, "d", false}, {api.Span{Low: "b", High: "d"}, "d\x00", false}, {api.Span{Low: "b", High: "d"}, "e", false}, {api.Span{Low: "b", High: "d"}, "\xff", false},
		{api.Span{Low: "bb", High: "d"}, "b", false}, {api.Span{Low: "bb", High: "d"}, "ba\xff", false},
		{api.Span{Low: "b"}, "a\xff", false}, {api.Span{Low: "b"}, "", false}, {api.Span{Low: "b"}, "b", true}, {api.Span{Low: "b"}, "c", true}, {api.Span{Low: "b"}, "\xff\xff\xff", true},
		{api.Span{}, "", true}, {api.Span{}, "\x00", true}, {api.Span{}, "\xff\xff", true},
		{api.Span{High: "b"}, "", true}, {api.Span{High: "b"}, "a\xff", true}, {api.Span{High: "b"}, "b", false}, {api.Span{High: "\x00"}, "", true}, {api.Span{High: "\x00"}, "\x00", false},
		{api.Span{Low: "b", High: "b"}, "a", false}, {api.Span{Low: "b", High: "b"}, "b", false}, {api.Span{Low: "b", High: "b"}, "c", false},
		{api.Span{Low: "d", High: "b"}, "a", false}, {api.Span{Low: "d", High: "b"}, "b", false}, {api.Span{Low: "d", High: "b"}, "c", false}, {api.Span{Low: "d", High: "b"}, "d", false}, {api.Span{Low: "d", High: "b"}, "e", false},
		{api.Span{Low: "\x7f", High: "\x81"}, "\x80", true}, {api.Span{Low: "a", High: "\xff"}, "\xfe\xff", true}, {api.Span{Low: "a", High: "\xff"}, "\xff", false},
	} {
		if in := key.In(c.s, c.k); in != c.in {
			t.Errorf("In(%q to %q, %q): %v", c.s.Low, c.s.High, c.k, in)
		}
	}
}

// short has all texts of up to n bytes, of these at the ends and in the middle.
func short(n int) []string {
	if n == 0 {
		return []string{""}
	}
	l := []string{""}
	for _, c := range []string{"\x00", "\x01", "a", "\xfe", "\xff"} {
		for _, s := range short(n - 1) {
			l = append(l, c+s)
		}
	}
	return l
}

// TestSpan: the keys in the span of s are just those that begin with s.
func TestSpan(t *testing.T) {
	keys := short(5)
	for _, s := range short(4) {
		span := key.Begin(s)
		for _, k := range keys {
			if in := key.In(span, k); in != strings.HasPrefix(k, s) {
				t.Errorf("In(Begin(%q), %q): %v", s, k, in)
			}
		}
	}
}

// below tells byte by byte whether one text is below another one.
func below(a, b string) bool {
	for i := range min(len(a), len(b)) {
		if a[i] != b[i] {
			return a[i] < b[i]
		}
	}
	return len(a) < len(b)
}

func TestInAll(t *testing.T) {
	l := short(3)
	for i, low := range l {
		for _, high := range l[i%7:] {
			for _, k := range l[i%3:] {
				want := !below(k, low) && (high == "" || below(k, high))
				if in := key.In(api.Span{Low: low, High: high}, k); in != want {
					t.Fatalf("In(%q to %q, %q): %v", low, high, k, in)
				}
			}
		}
	}
}

// TestSpanOfValues: in the span of a value's key stands that of no other one, with whatever numbers behind it.
func TestSpanOfValues(t *testing.T) {
	keys := keysOf(all())
	for _, a := range keys {
		span := key.Begin(a.k)
		for _, b := range keys {
			if in := key.In(span, b.k+key.ID(7)); in != val.Same(a.v, b.v) {
				t.Errorf("%v in the span of %v: %v", b.v, a.v, in)
			}
		}
	}
}

func TestExample(t *testing.T) {
	s := key.Begin("a")
	if s.Low != "a" || s.High != "b" {
		t.Error(s)
	}
	if key.In(s, "A") || !key.In(s, "a") || !key.In(s, "azzz") || key.In(s, "b") {
		t.Error("from a, below b")
	}
}
