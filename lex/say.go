package lex

import (
	"math"
	"strconv"
	"strings"

	"offshoot/num"
)

// Text is a text between quotes.
func Text(s string) string {
	var b strings.Builder
	b.WriteByte(quote)
	for i := range len(s) {
		sayByte(&b, s[i])
	}
	b.WriteByte(quote)
	return b.String()
}

func sayByte(b *strings.Builder, c byte) {
	switch {
	case !plain(c):
		b.WriteByte(turn)
		b.WriteByte('x')
		b.WriteByte(hexes[c>>4])
		b.WriteByte(hexes[c&15])
	case c == quote || c == turn:
		b.WriteByte(turn)
		b.WriteByte(c)
	default:
		b.WriteByte(c)
	}
}

// Number is an int64's digits.
func Number(n int64) string { return strconv.FormatInt(n, 10) }

// Float is a float's word.
func Float(f float64) string {
	digits := strconv.FormatUint(math.Float64bits(num.Canon(f)), 16)
	return floatAhead + strings.Repeat("0", 16-len(digits)) + digits + floatEnd
}
