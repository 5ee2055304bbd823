package lex_test

import (
	"math"
	"math/rand"
	"testing"

	"offshoot/api"
	"offshoot/lex"
)

func TestText(t *testing.T) {
	for s, want := range map[string]string{
		"": `''`, "a": `'a'`, " ~": `' ~'`, "'": `'\''`, `\`: `'\\'`, `\'`: `'\\\''`, `"`: `'"'`, `\x41`: `'\\x41'`,
		"\x00": `'\x00'`, "\t\n": `'\x09\x0a'`, "\x1f ": `'\x1f '`, "\x7f": `'\x7f'`, "\x80\xff": `'\x80\xff'`, "é": `'\xc3\xa9'`, "a\x00b": `'a\x00b'`, "(),.[]": `'(),.[]'`,
	} {
		if got := lex.Text(s); got != want {
			t.Errorf("%q: %s; must be %s", s, got, want)
		}
	}
	// How long it is, it does not ask.
	if got := lex.Text(times(4000, "a")); got != "'"+times(4000, "a")+"'" {
		t.Error(len(got))
	}
}

func TestNumber(t *testing.T) {
	for n, want := range map[int64]string{0: "0", 1: "1", -1: "-1", 10: "10", -10: "-10", 99: "99",
		math.MaxInt64: "9223372036854775807", math.MinInt64: "-9223372036854775808"} {
		if got := lex.Number(n); got != want {
			t.Errorf("%d: %s", n, got)
		}
	}
}

func TestFloat(t *testing.T) {
	for want, f := range map[string]float64{
		"f'3ff0000000000000'": 1, "f'0000000000000000'": 0, "f'8000000000000000'": minus0, "f'3fb999999999999a'": 0.1, "f'0000000000000001'": 5e-324,
		"f'000fffffffffffff'": math.Float64frombits(1<<52 - 1), "f'7ff0000000000000'": inf, "f'fff0000000000000'": -inf, "f'7ff8000000000001'": nan, "f'c000000000000000'": -2,
	} {
		if got := lex.Float(f); got != want {
			t.Errorf("%v: %s; must be %s", f, got, want)
		}
	}
	// All that are no number are one.
	for _, b := range []uint64{0x7ff8000000000000, 0x7ff8000000000002, 0x7ff0000000000001, 0xfff8000000000001, math.MaxUint64} {
		if got := lex.Float(math.Float64frombits(b)); got != "f'7ff8000000000001'" {
			t.Errorf("%x: %s", b, got)
		}
	}
}

// readAgain asks for a word that is said to be read as itself, alone and with others beside it.
func readAgain(t *testing.T, s string, w api.Word) {
	t.Helper()
	must(t, s, alone(s, w)...)
	must(t, "("+s+")", at(0, sign("(")), at(1, w), at(1+len(s), sign(")")), at(2+len(s), end()))
	must(t, s+" "+s, at(0, w), at(1+len(s), w), at(1+2*len(s), end()))
}

func TestTextsAgain(t *testing.T) {
	for a := range 256 {
		for _, b := range []byte{0, 31, 32, '\'', '0', 'a', 'f', 'x', '\\', 126, 127, 128, 255} {
			s := string([]byte{byte(a), b})
			readAgain(t, lex.Text(s), text(s))
			readAgain(t, lex.Text(s[:1]), text(s[:1]))
			readAgain(t, lex.Text(string([]byte{b, byte(a)})), text(string([]byte{b, byte(a)})))
		}
	}
	r := rand.New(rand.NewSource(1))
	for range 3000 {
		b := make([]byte, r.Intn(501))
		few := r.Intn(2) == 0
		for i := range b {
			b[i] = byte(r.Intn(256))
			if few {
				b[i] = `ax'\f0`[r.Intn(6)]
			}
		}
		must(t, lex.Text(string(b)), alone(lex.Text(string(b)), text(string(b)))...)
	}
}

func TestNumbersAgain(t *testing.T) {
	r := rand.New(rand.NewSource(2))
	l := []int64{0, math.MaxInt64, math.MinInt64}
	for i := range 63 {
		l = append(l, 1<<i, 1<<i-1, -1<<i, -1<<i-1, int64(r.Uint64())>>i)
	}
	for _, n := range l {
		readAgain(t, lex.Number(n), number(lex.Number(n), n))
	}
}

func TestFloatsAgain(t *testing.T) {
	r := rand.New(rand.NewSource(3))
	l := []float64{0, minus0, inf, -inf, nan, 5e-324, math.MaxFloat64}
	for i := range 64 {
		l = append(l, math.Float64frombits(1<<i), math.Float64frombits(r.Uint64()), math.Float64frombits(r.Uint64()>>i))
	}
	for _, f := range l {
		if f != f {
			f = nan
		}
		readAgain(t, lex.Float(f), float(lex.Float(f), f))
	}
	readAgain(t, lex.Float(math.Float64frombits(0xfff8000000000007)), float("f'7ff8000000000001'", nan))
}

// say tells a word as it was told ahead of being read.
func say(w api.Word) string {
	switch w.Kind {
	case api.WordInt:
		return lex.Number(w.N)
	case api.WordFloat:
		return lex.Float(w.F)
	case api.WordStr:
		return lex.Text(w.S)
	}
	return w.S
}
