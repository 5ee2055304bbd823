package page_test

import (
	"strings"
	"testing"

	"offshoot/api"
	"offshoot/page"
)

// TestEncode has a page byte by byte.
func TestEncode(t *testing.T) {
	p := made(t, api.Body{ID: 0x0102030405060708, S: "last"}, api.Body{ID: 5, S: "first"}, api.Body{ID: 6})
	want := "\x00\x03" +
		"\x00\x00\x00\x00\x00\x00\x00\x05" + "\x01\xfb" + "\x00\x05" +
		"\x00\x00\x00\x00\x00\x00\x00\x06" + "\x01\xfb" + "\x00\x00" +
		"\x01\x02\x03\x04\x05\x06\x07\x08" + "\x01\xf7" + "\x00\x04" +
		strings.Repeat("\x00", 465) + "last" + "first"
	if s := p.Encode(); s != want || len(s) != 512 {
		t.Errorf("%q", s)
	}
	if s := page.New().Encode(); s != strings.Repeat("\x00", 512) {
		t.Errorf("%q", s)
	}
	if s := made(t, api.Body{ID: 1<<64 - 1, S: text(1, 498)}).Encode(); s != "\x00\x01\xff\xff\xff\xff\xff\xff\xff\xff\x00\x0e\x01\xf2"+text(1, 498) {
		t.Errorf("%q", s)
	}
	if s := made(t, api.Body{}).Encode(); s != "\x00\x01\x00\x00\x00\x00\x00\x00\x00\x00\x02\x00\x00\x00"+noughts(498) {
		t.Errorf("%q", s)
	}
}

// pages has records of pages: none, whole, empty, as many as can be, at the ends.
func pages() [][]api.Body {
	var most, few []api.Body
	for i := range 42 {
		most = append(most, api.Body{ID: uint64(i) << 50})
	}
	most[41].S = "sixsix"
	for i, id := range ends() {
		few = append(few, api.Body{ID: id, S: text(i, 2*i)})
	}
	return [][]api.Body{
		nil, {{}}, {{ID: 1, S: "a"}}, {{ID: 1}, {ID: 2}}, {{ID: 7, S: noughts(10)}, {ID: 8, S: noughts(20)}}, {{ID: 7, S: text(1, 498)}},
		{{ID: 1}, {ID: 2, S: text(2, 486)}}, {{ID: 1, S: text(2, 486)}, {ID: 2}}, {{ID: 1, S: text(1, 243)}, {ID: 2, S: text(2, 243)}}, most, few,
	}
}

// TestDecode: bytes are read again, and the page goes on as the one that told them.
func TestDecode(t *testing.T) {
	for _, l := range pages() {
		p, q := made(t, l...), reads(t, form(l...), l...)
		for id, s := range []string{"", "more", text(1, 200), text(2, 498)} {
			if a, b := p.Put(uint64(id), s), q.Put(uint64(id), s); a != b {
				t.Errorf("Put(%d): %v, %v", id, a, b)
			}
			is(t, q, p.All()...)
		}
		for id := range uint64(9) {
			if a, b := p.Drop(id), q.Drop(id); a != b {
				t.Errorf("Drop(%d): %v, %v", id, a, b)
			}
			is(t, q, p.All()...)
		}
	}
}

// TestDecodeLength: fewer bytes and more are told ahead of whatever form they have.
func TestDecodeLength(t *testing.T) {
	for _, s := range []string{noughts(512), form(api.Body{ID: 1, S: "a"}), strings.Repeat("\xff", 512), text(1, 512)} {
		for n := range 512 {
			fails(t, s[:n], api.ErrCut)
			fails(t, s+s[:n+1], api.ErrTail)
		}
		fails(t, strings.Repeat(s, 200), api.ErrTail)
	}
}

func TestDecodeShape(t *testing.T) {
	full := func(n int) string {
		l := ""
		for i := range 42 {
			l += slot(uint64(i), 512, 0)
		}
		return laid(n, l, "")
	}
	reads(t, full(42), func() (l []api.Body) {
		for i := range uint64(42) {
			l = append(l, api.Body{ID: i})
		}
		return l
	}()...)
	for name, s := range map[string]string{
		"a record more than a page has":        full(43),
		"a record fewer than the slots":        full(41),
		"no record and slots":                  full(0),
		"as many as two bytes say":             full(65535),
		"256 more":                             full(42 + 256),
		"a count alone":                        laid(65535, "", ""),
		"a record and a slot of noughts":       laid(1, "", ""),
		"a count of two and one slot":          laid(2, slot(1, 512, 0), ""),
		"a count of none and a byte":           laid(0, "", "a"),
		"one number twice":                     laid(2, slot(1, 511, 1)+slot(1, 510, 1), "ba"),
		"one number twice, without bytes":      laid(2, slot(1, 512, 0)+slot(1, 512, 0), ""),
		"numbers that fall":                    laid(2, slot(2, 511, 1)+slot(1, 510, 1), "ba"),
		"numbers that fall, laid by them":      laid(2, slot(2, 510, 1)+slot(1, 511, 1), "ba"),
		"numbers that fall over the sign":      laid(2, slot(1<<63, 511, 1)+slot(1, 510, 1), "ba"),
		"numbers that rise, laid backwards":    laid(2, slot(1, 510, 1)+slot(2, 511, 1), "ba"),
		"a slot that begins outside":           laid(1, slot(1, 513, 0), ""),
		"a slot that ends outside":             laid(1, slot(1, 511, 2), "a"),
		"a slot that begins far outside":       laid(1, slot(1, 65535, 0), ""),
		"a slot that ends far outside":         laid(1, slot(1, 511, 65535), "a"),
		"a slot over all bounds":               laid(1, slot(1, 65535, 65535), "a"),
		"a slot over 16 bits":                  laid(1, slot(1, 511, 65536-511), "a"),
		"a record that is too long":            laid(1, slot(1, 13, 499), text(1, 498)),
		"a record over its slot":               laid(1, slot(1, 2, 510), ""),
		"a record over the page's front":       laid(1, slot(1, 0, 512), ""),
		"a record that ends ahead of the end":  laid(1, slot(1, 510, 1), "aa"),
		"one without bytes ahead of the end":   laid(1, slot(1, 511, 0), ""),
		"one without bytes at the front":       laid(1, slot(1, 0, 0), ""),
		"a byte between two":                   laid(2, slot(1, 511, 1)+slot(2, 509, 1), "b\x00a"),
		"two over one another":                 laid(2, slot(1, 510, 2)+slot(2, 509, 2), "baa"),
		"two in one place":                     laid(2, slot(1, 511, 1)+slot(2, 511, 1), "a"),
		"one over the other's slot":            laid(2, slot(1, 269, 243)+slot(2, 25, 244), text(1, 486)),
		"a byte ahead of the records":          laid(1, slot(1, 511, 1), "ba"),
		"a byte behind the slots":              laid(1, slot(1, 511, 1)+"b", "a"),
		"nought and a byte behind the slots":   laid(1, slot(1, 511, 1)+"\x00b", "a"),
		"a slot more behind the slots":         laid(1, slot(1, 511, 1)+slot(2, 511, 0), "a"),
		"all ff":                               strings.Repeat("\xff", 512),
		"a text":                               text(3, 512),
		"numbers with the lower byte in front": "\x01\x00" + slot(1, 511, 1) + noughts(497) + "a",
	} {
		if len(s) != 512 {
			t.Errorf("%s: %d bytes", name, len(s))
		}
		if p, e := page.Decode(s); p != nil || e != api.ErrShape {
			t.Errorf("%s: %v, %d", name, p, e)
		}
	}
}

// parse reads bytes once more, as slowly as the chapter's words tell their form.
func parse(s string) ([]api.Body, bool) {
	num := func(at, n int) uint64 {
		v := uint64(0)
		for i := range n {
			v = v*256 + uint64(s[at+i])
		}
		return v
	}
	n, end := int(num(0, 2)), 512
	if n > 42 {
		return nil, false
	}
	var l []api.Body
	for i := range n {
		at := 2 + 12*i
		b := api.Body{ID: num(at, 8)}
		begin, size := int(num(at+8, 2)), int(num(at+10, 2))
		if i > 0 && b.ID <= l[i-1].ID || begin+size != end || begin < 2+12*n {
			return nil, false
		}
		b.S = s[begin:end]
		l, end = append(l, b), begin
	}
	return l, strings.Trim(s[2+12*n:end], "\x00") == ""
}

// agrees holds that bytes are read as those slow words tell.
func agrees(t *testing.T, s string) {
	t.Helper()
	l, ok := parse(s)
	if !ok {
		fails(t, s, api.ErrShape)
		return
	}
	p, e := page.Decode(s)
	if p == nil || e != api.OK || p.Encode() != s {
		t.Fatalf("Decode(%q): %v, %d", s, p, e)
	}
	is(t, p, l...)
	if t.Failed() {
		t.FailNow()
	}
}

// TestDecodeFaults: each byte of each page becomes another one.
func TestDecodeFaults(t *testing.T) {
	for _, l := range pages() {
		s := form(l...)
		agrees(t, s)
		for at := range len(s) {
			for _, c := range []byte{s[at] + 1, s[at] - 1, s[at] ^ 2, s[at] ^ 128, 0, 12, 42, 43, 255} {
				agrees(t, s[:at]+string([]byte{c})+s[at+1:])
			}
		}
	}
}
