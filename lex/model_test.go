package lex_test

import (
	"math/rand"
	"testing"

	"offshoot/api"
	"offshoot/lex"
)

// All texts of up to five bytes of those at which something changes.
func TestShortTexts(t *testing.T) {
	const bytes = "af0-1'\\x_. \n"
	var all func(s string, left int)
	all = func(s string, left int) {
		asModel(t, s)
		if left == 0 {
			return
		}
		for i := range len(bytes) {
			all(s+bytes[i:i+1], left-1)
		}
	}
	all("", 5)
}

// pieces has what words are made of, right and wrong.
func pieces() []string {
	return []string{"g", "V", "_", "f", "a1", "abcdefghijklmnop", "abcdefghijklmnopq", "0", "-0", "01", "7", "-7", "9223372036854775807", "9223372036854775808", "-9223372036854775808", "-",
		"f'3ff0000000000000'", "f'8000000000000000'", "f'7ff8000000000001'", "f'7ff8000000000002'", "f'3FF0000000000000'", "f'3ff'", "f'",
		"''", "'a b'", `'\''`, `'\\'`, `'\x00'`, `'\xff\x41'`, `'\xFF'`, `'\n'`, "'", "'\n'", `\`, ".", "(", ")", ",", "[", "]", " ", "  ", "\t", "#", "é", "\xff", "\x00"}
}

// Pieces by turns, most of which may be, by a fixed seed.
func TestPieces(t *testing.T) {
	r := rand.New(rand.NewSource(4))
	l := pieces()
	told := map[api.Errno]int{}
	for range 60000 {
		s := ""
		for range r.Intn(8) {
			s += l[r.Intn(len(l))]
		}
		told[asModel(t, s)]++
	}
	if told[api.OK] < 1000 || told[api.ErrLex] < 1000 {
		t.Error(told)
	}
}

// Any bytes, of any length around the limits.
func TestAnyBytes(t *testing.T) {
	r := rand.New(rand.NewSource(5))
	told := map[api.Errno]int{}
	for i := range 6000 {
		b := make([]byte, r.Intn([]int{10, 100, 3100}[i%3]))
		for k := range b {
			b[k] = ".(a1 "[r.Intn(5)]
			if i%2 == 0 && r.Intn(len(b)) == 0 {
				b[k] = byte(r.Intn(256))
			}
		}
		told[asModel(t, string(b))]++
	}
	if told[api.OK] < 100 || told[api.ErrLex] < 100 || told[api.ErrMost] < 20 {
		t.Error(told)
	}
}

// What was read, and is told with spaces between, is read again to the same.
func TestAgain(t *testing.T) {
	r := rand.New(rand.NewSource(6))
	l := pieces()
	for n := 0; n < 3000; {
		s := ""
		for range 1 + r.Intn(6) {
			s += l[r.Intn(len(l))] + times(r.Intn(2), " ")
		}
		was, _, e := lex.Words(s)
		if e != api.OK {
			continue
		}
		n++
		again, want := "", []api.Word(nil)
		for _, w := range was[:len(was)-1] {
			want = append(want, at(len(again), w))
			again += say(w) + " "
		}
		must(t, again, append(want, at(len(again), end()))...)
	}
}

// What is done to an answer changes no other one.
func TestOwn(t *testing.T) {
	const s = "g.V('a', 1)"
	a, _, _ := lex.Words(s)
	b, _, _ := lex.Words(s)
	for i := range a {
		a[i] = text("another")
	}
	_ = append(a, name("more"))
	c, _, _ := lex.Words(s)
	want, _, _ := model(s)
	if !alikeAll(b, want) || !alikeAll(c, want) {
		t.Error(b, c)
	}
}
