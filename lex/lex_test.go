package lex_test

import (
	"math"
	"testing"

	"offshoot/api"
	"offshoot/lex"
)

func TestKinds(t *testing.T) {
	for i, k := range []int{api.WordEnd, api.WordName, api.WordInt, api.WordFloat, api.WordStr, api.WordSign} {
		if k != i {
			t.Error(i, k)
		}
	}
	if api.ErrLex != 110 || api.MostText != 3000 || api.MostWords != 1500 || api.MostName != 16 || api.MostStr != 500 {
		t.Error("a limit is another one than these tests take it for")
	}
}

// The chapter's own example.
func TestExample(t *testing.T) {
	must(t, "V('a')", at(0, name("V")), at(1, sign("(")), at(2, text("a")), at(5, sign(")")), at(6, end()))
}

func TestEmpty(t *testing.T) {
	must(t, "", at(0, end()))
	must(t, " ", at(1, end()))
	must(t, "   ", at(3, end()))
	must(t, times(3000, " "), at(3000, end()))
}

func TestNames(t *testing.T) {
	for _, s := range []string{"a", "z", "A", "Z", "_", "g", "f", "x", "a0", "a9", "_0", "__", "a_b", "startingWith", "aZ09_", "f1", "ff", "abcdefghijklmnop", "_123456789012345"} {
		must(t, s, alone(s, name(s))...)
	}
	for _, s := range []string{"@", "`", "{", "^", "é", "\u00aa", "\xe9", "abcdefghijklmnopq", "_1234567890123456", times(17, "_"), times(100, "a")} {
		mustNot(t, s, 0, api.ErrLex)
	}
	// Bytes that stand beside letters and digits, but are none.
	for _, c := range []string{"@", "`", "{", "^", "/", ":", "é", "\u00aa", "\x00"} {
		mustNot(t, "ab"+c+"c", 2, api.ErrLex)
	}
	must(t, "[a", at(0, sign("[")), at(1, name("a")), at(2, end()))
}

func TestNumbers(t *testing.T) {
	for s, n := range map[string]int64{"0": 0, "1": 1, "9": 9, "10": 10, "-1": -1, "-9": -9, "-10": -10, "100": 100, "1234567890": 1234567890,
		"9223372036854775807": math.MaxInt64, "-9223372036854775808": math.MinInt64, "9223372036854775799": math.MaxInt64 - 8} {
		must(t, s, alone(s, number(s, n))...)
	}
	for _, s := range []string{"-", "-0", "00", "01", "-01", "-00", "007", "--1", "- 1", "-a", "-'a'", "-.", "+1", "+", "-+1",
		"9223372036854775808", "-9223372036854775809", "10000000000000000000", "18446744073709551616", "99999999999999999999999", times(100, "9")} {
		mustNot(t, s, 0, api.ErrLex)
	}
}

func TestFloats(t *testing.T) {
	for s, f := range map[string]float64{
		"f'3ff0000000000000'": 1, "f'0000000000000000'": 0, "f'8000000000000000'": minus0, "f'3fb999999999999a'": 0.1,
		"f'7ff0000000000000'": inf, "f'fff0000000000000'": -inf, "f'7ff8000000000001'": nan, "f'0000000000000001'": 5e-324,
		"f'ffefffffffffffff'": -math.MaxFloat64, "f'0123456789abcdef'": math.Float64frombits(0x123456789abcdef),
	} {
		must(t, s, alone(s, float(s, f))...)
		must(t, s+s, at(0, float(s, f)), at(19, float(s, f)), at(38, end()))
	}
	for _, s := range []string{
		"f'", "f''", "f'1'", "f'3ff000000000000'", "f'3ff00000000000000'", "f'3ff0000000000000", "f'3ff000000000000'0", "f'3ff0000000000000\"",
		"f'3FF0000000000000'", "f'3ff000000000000g'", "f'3ff000000000000A'", "f'+ff0000000000000'", "f'-ff0000000000000'", "f'3_f0000000000000'", "f'0x00000000000000'",
		"f' 3ff000000000000'", "f'3ff000000000000 '", "f'\\x3ff0000000000'", "f'a'", "f'a\n'",
		"f'7ff8000000000000'", "f'7ff8000000000002'", "f'fff8000000000001'", "f'7ff0000000000001'", "f'ffffffffffffffff'", "f'7fffffffffffffff'",
	} {
		mustNot(t, s, 0, api.ErrLex)
		mustNot(t, "a  "+s+" b", 3, api.ErrLex)
	}
}

// What only looks like a float.
func TestNearFloats(t *testing.T) {
	must(t, "f '3ff0000000000000'", at(0, name("f")), at(2, text("3ff0000000000000")), at(20, end()))
	must(t, "ff'3ff0000000000000'", at(0, name("ff")), at(2, text("3ff0000000000000")), at(20, end()))
	must(t, "F'3ff0000000000000'", at(0, name("F")), at(1, text("3ff0000000000000")), at(19, end()))
	must(t, "1f'3ff0000000000000'", at(0, number("1", 1)), at(1, float("f'3ff0000000000000'", 1)), at(20, end()))
}

func TestTexts(t *testing.T) {
	for s, says := range map[string]string{
		`''`: "", `'a'`: "a", `' '`: " ", `'~'`: "~", `' a  b '`: " a  b ", `'"'`: `"`, `'g.V()'`: "g.V()", `'f'`: "f", `'-1'`: "-1",
		`'\''`: "'", `'\\'`: `\`, `'\\\''`: `\'`, `'\'\'\\'`: `''\`, `'\\x41'`: `\x41`, `'x41'`: "x41",
		`'\x00'`: "\x00", `'\x0a'`: "\n", `'\x1f'`: "\x1f", `'\x7f'`: "\x7f", `'\x80'`: "\x80", `'\xff'`: "\xff", `'\xc3\xa9'`: "é",
		`'\x41'`: "A", `'\x27'`: "'", `'\x5c'`: `\`, `'\x20'`: " ", `'\x419'`: "A9", `'\x41\x42'`: "AB", `'\xabc'`: "\xabc",
	} {
		must(t, s, alone(s, text(says))...)
	}
	for _, s := range []string{
		`'`, `'a`, `'\`, `'\'`, `'\\`, `'\\\'`, `'\x`, `'\x4`, `'\x41`, `'\x'`, `'\x4'`, `'\x4g'`, `'\xg4'`, `'\x4A'`, `'\xA4'`, `'\X41'`, `'\x 4'`, `'\x4 '`,
		`'\n'`, `'\0'`, `'\u0041'`, `'\"'`, `'\a'`, `'\ '`, "'\\\n'", "'\n'", "'\x00'", "'\x1f'", "'\x7f'", "'\x80'", "'\xff'", "'é'", "'a\t'",
	} {
		mustNot(t, s, 0, api.ErrLex)
		mustNot(t, "  ("+s, 3, api.ErrLex)
	}
}

// Each byte within a text: as it is, behind a \, and by its digits.
func TestBytesOfTexts(t *testing.T) {
	for b := range 256 {
		c := string([]byte{byte(b)})
		asModel(t, "'"+c+"'")
		asModel(t, "'a"+c+"b'")
		asModel(t, `'\`+c+"'")
		asModel(t, `'\`+c+`00'`)
		asModel(t, `'\x`+c+"0'")
		asModel(t, `'\x0`+c+"'")
		asModel(t, `f'000000000000000`+c+"'")
		asModel(t, `f'`+c+"000000000000000'")
		asModel(t, `f'0000000000000000`+c)
	}
}

// Each byte alone, and ahead of, between and behind words of each kind.
func TestBytes(t *testing.T) {
	for b := range 256 {
		c := string([]byte{byte(b)})
		asModel(t, c)
		asModel(t, c+c)
		for _, w := range []string{"a", "1", "-1", "f", "'a'", "f'3ff0000000000000'", ".", "("} {
			asModel(t, c+w)
			asModel(t, w+c)
			asModel(t, w+c+w)
			asModel(t, w+" "+c+" "+w)
		}
	}
}

func TestSigns(t *testing.T) {
	must(t, ".(),[]", at(0, sign(".")), at(1, sign("(")), at(2, sign(")")), at(3, sign(",")), at(4, sign("[")), at(5, sign("]")), at(6, end()))
	for _, s := range []string{"{", "}", "<", ">", ":", ";", "\"", "#", "\\", "/", "*", "+", "=", "!", "\t", "\n", "\r", "\x00", "\x7f", "\xa0", "\u00a0", "|"} {
		mustNot(t, s, 0, api.ErrLex)
		mustNot(t, "a "+s, 2, api.ErrLex)
	}
}

func TestSpaces(t *testing.T) {
	must(t, "  g . V( 1 ,'a b' )  ", at(2, name("g")), at(4, sign(".")), at(6, name("V")), at(7, sign("(")), at(9, number("1", 1)), at(11, sign(",")), at(12, text("a b")), at(18, sign(")")), at(21, end()))
	must(t, "a b", at(0, name("a")), at(2, name("b")), at(3, end()))
	must(t, "1 2", at(0, number("1", 1)), at(2, number("2", 2)), at(3, end()))
}

// Words need no spaces between them, where they end is told by what they are.
func TestNoSpaces(t *testing.T) {
	must(t, "12abc", at(0, number("12", 12)), at(2, name("abc")), at(5, end()))
	must(t, "1-2", at(0, number("1", 1)), at(1, number("-2", -2)), at(3, end()))
	must(t, "a-1", at(0, name("a")), at(1, number("-1", -1)), at(3, end()))
	must(t, "1.5", at(0, number("1", 1)), at(1, sign(".")), at(2, number("5", 5)), at(3, end()))
	must(t, "'a''b'", at(0, text("a")), at(3, text("b")), at(6, end()))
	must(t, "a'b'c", at(0, name("a")), at(1, text("b")), at(4, name("c")), at(5, end()))
	mustNot(t, "1.05", 2, api.ErrLex)
	mustNot(t, "1-", 1, api.ErrLex)
}

// The place is that of the word's first byte, not of the byte that may not be within it.
func TestPlaces(t *testing.T) {
	mustNot(t, "g.V('abc\n').out()", 4, api.ErrLex)
	mustNot(t, "g.V(1, 002)", 7, api.ErrLex)
	mustNot(t, "g.V('a', 'b)", 9, api.ErrLex)
	mustNot(t, "g.averyveryverylongname()", 2, api.ErrLex)
	mustNot(t, "# 01 #", 0, api.ErrLex)
	mustNot(t, "a 01 # 02", 2, api.ErrLex)
	mustNot(t, "g.V(1) \n", 7, api.ErrLex)
}

func TestMostName(t *testing.T) {
	s := times(15, "a") + "0"
	must(t, s+"."+s, at(0, name(s)), at(16, sign(".")), at(17, name(s)), at(33, end()))
	mustNot(t, s+"."+s+"1", 17, api.ErrLex)
}

func TestMostStr(t *testing.T) {
	for says, by := range map[string]string{"a": "a", "'": `\'`, "\x00": `\x00`} {
		must(t, "'"+times(500, by)+"'", at(0, text(times(500, says))), at(500*len(by)+2, end()))
		mustNot(t, "'"+times(501, by)+"'", 0, api.ErrLex)
		mustNot(t, "a '"+times(501, by)+"' #", 2, api.ErrLex)
	}
	mustNot(t, "'"+times(2998, "a")+"'", 0, api.ErrLex)
}

func TestMostText(t *testing.T) {
	must(t, "a"+times(2999, " "), at(0, name("a")), at(3000, end()))
	must(t, times(2999, " ")+"a", at(2999, name("a")), at(3000, end()))
	mustNot(t, times(3001, " "), 3000, api.ErrMost)
	mustNot(t, "a"+times(3000, " "), 3000, api.ErrMost)
	mustNot(t, times(3000, " ")+"#", 3000, api.ErrMost)
	mustNot(t, times(100000, "a "), 3000, api.ErrMost)
	// ErrMost of a text is named ahead of all others.
	mustNot(t, "#"+times(3000, " "), 3000, api.ErrMost)
	mustNot(t, times(3001, "."), 3000, api.ErrMost)
}

func TestMostWords(t *testing.T) {
	var all []api.Word
	for i := range 1500 {
		all = append(all, at(2*i, name("a")))
	}
	must(t, times(1500, "a "), append(all, at(3000, end()))...)
	if l, _, e := lex.Words(times(1500, ".")); len(l) != 1501 || e != api.OK {
		t.Error(len(l), e)
	}
	mustNot(t, times(1501, "."), 1500, api.ErrMost)
	mustNot(t, times(1500, ".")+"   a", 1503, api.ErrMost)
	mustNot(t, times(3000, "."), 1500, api.ErrMost)
	mustNot(t, "  "+times(1400, "(")+times(100, " [")+" 'a' b c", 1603, api.ErrMost)
	must(t, times(1500, ".")[:1499]+"a   ", append(signs(1499), at(1499, name("a")), at(1503, end()))...)
}

func signs(n int) []api.Word {
	var l []api.Word
	for i := range n {
		l = append(l, at(i, sign(".")))
	}
	return l
}

// Of a text with too many words of which one may not be, that is told: it is named first.
func TestFirstNamed(t *testing.T) {
	mustNot(t, "#"+times(1501, "."), 0, api.ErrLex)
	mustNot(t, times(1500, ".")+"#", 1500, api.ErrLex)
	mustNot(t, times(1501, ".")+"#", 1501, api.ErrLex)
	mustNot(t, times(2000, ".")+" 01", 2001, api.ErrLex)
}
