package lex_test

import (
	"math"
	"math/big"
	"regexp"
	"strings"
	"testing"

	"offshoot/api"
	"offshoot/lex"
)

var (
	minus0 = math.Copysign(0, -1)
	inf    = math.Inf(1)
	nan    = math.Float64frombits(0x7ff8000000000001)
)

// Words of each kind, without their places.
func name(s string) api.Word             { return api.Word{Kind: api.WordName, S: s} }
func sign(s string) api.Word             { return api.Word{Kind: api.WordSign, S: s} }
func text(s string) api.Word             { return api.Word{Kind: api.WordStr, S: s} }
func number(s string, n int64) api.Word  { return api.Word{Kind: api.WordInt, S: s, N: n} }
func float(s string, f float64) api.Word { return api.Word{Kind: api.WordFloat, S: s, F: f} }
func end() api.Word                      { return api.Word{Kind: api.WordEnd} }
func at(place int, w api.Word) api.Word  { w.At = place; return w }
func times(n int, s string) string       { return strings.Repeat(s, n) }
func short(s string) string              { return s[:min(len(s), 60)] }

// alone has the words of a text of one word.
func alone(s string, w api.Word) []api.Word { return []api.Word{at(0, w), at(len(s), end())} }

// alike tells whether words are so, their floats bit for bit.
func alike(a, b api.Word) bool {
	return a.Kind == b.Kind && a.S == b.S && a.N == b.N && math.Float64bits(a.F) == math.Float64bits(b.F) && a.At == b.At
}

func alikeAll(a, b []api.Word) bool {
	if len(a) != len(b) {
		return false
	}
	for i := range a {
		if !alike(a[i], b[i]) {
			return false
		}
	}
	return true
}

// must asks for the words of a text.
func must(t *testing.T, s string, want ...api.Word) {
	t.Helper()
	if l, place, e := lex.Words(s); !alikeAll(l, want) || place != 0 || e != api.OK {
		t.Errorf("%q: %v, %d, %d; must be %v", short(s), l, place, e, want)
	}
}

// mustNot asks for a place and an error.
func mustNot(t *testing.T, s string, place int, want api.Errno) {
	t.Helper()
	if l, n, e := lex.Words(s); len(l) != 0 || n != place || e != want {
		t.Errorf("%q: %v, %d, %d; must be %d, %d", short(s), l, n, e, place, want)
	}
}

// The chapter's words once more, by other means, so that no fault of the program's own hides in them.
var forms = []struct {
	kind int
	form *regexp.Regexp
}{
	{api.WordFloat, regexp.MustCompile(`^f'[0-9a-f]{16}'`)},
	{api.WordName, regexp.MustCompile(`^[A-Za-z_][A-Za-z0-9_]*`)},
	{api.WordInt, regexp.MustCompile(`^-?[0-9]+`)},
	{api.WordStr, regexp.MustCompile(`^'(?:[ !"#$%&(-\[\]-~]|\\['\\]|\\x[0-9a-f]{2})*'`)},
	{api.WordSign, regexp.MustCompile(`^[.(),\[\]]`)},
}

var onlyForm = regexp.MustCompile(`^(0|-?[1-9][0-9]*)$`)

// model is what Words must answer.
func model(s string) ([]api.Word, int, api.Errno) {
	if len(s) > 3000 {
		return nil, 3000, api.ErrMost
	}
	var l []api.Word
	place := 0
	for rest := s; ; {
		rest = strings.TrimLeft(rest, " ")
		place = len(s) - len(rest)
		if rest == "" {
			break
		}
		w, size := modelWord(rest)
		if size == 0 {
			return nil, place, api.ErrLex
		}
		l = append(l, at(place, w))
		rest = rest[size:]
	}
	if len(l) > 1500 {
		return nil, l[1500].At, api.ErrMost
	}
	return append(l, at(len(s), end())), 0, api.OK
}

func modelWord(s string) (api.Word, int) {
	for _, f := range forms {
		m := f.form.FindString(s)
		if m == "" {
			continue
		}
		w, ok := modelSays(f.kind, m)
		// An f with a quote behind it begins a float, and nothing else.
		if !ok || f.kind == api.WordName && m == "f" && strings.HasPrefix(s, "f'") {
			return api.Word{}, 0
		}
		return w, len(m)
	}
	return api.Word{}, 0
}

func modelSays(kind int, m string) (api.Word, bool) {
	switch kind {
	case api.WordName:
		return name(m), len(m) <= 16
	case api.WordInt:
		n, _ := new(big.Int).SetString(m, 10)
		if !n.IsInt64() || !onlyForm.MatchString(m) {
			return api.Word{}, false
		}
		return number(m, n.Int64()), true
	case api.WordFloat:
		n, _ := new(big.Int).SetString(m[2:18], 16)
		f := math.Float64frombits(n.Uint64())
		return float(m, f), f == f || n.Uint64() == 0x7ff8000000000001
	case api.WordStr:
		s := modelText(m[1 : len(m)-1])
		return text(s), len(s) <= 500
	}
	return sign(m), true
}

var turned = regexp.MustCompile(`\\(?:['\\]|x..)`)

func modelText(s string) string {
	return turned.ReplaceAllStringFunc(s, func(m string) string {
		if len(m) == 2 {
			return m[1:]
		}
		n, _ := new(big.Int).SetString(m[2:], 16)
		return string([]byte{byte(n.Int64())})
	})
}

// asModel holds Words against the model.
func asModel(t *testing.T, s string) api.Errno {
	t.Helper()
	l, place, e := lex.Words(s)
	want, wantPlace, wantE := model(s)
	if !alikeAll(l, want) || place != wantPlace || e != wantE {
		t.Fatalf("%q: %v, %d, %d; must be %v, %d, %d", s, l, place, e, want, wantPlace, wantE)
	}
	return e
}
