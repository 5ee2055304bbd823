package parse_test

import (
	"math"
	"testing"

	"offshoot/api"
	"offshoot/parse"
	"offshoot/val"
)

func TestLimits(t *testing.T) {
	if api.ErrParse != 120 || api.MostNest != 12 || api.MostSteps != 150 || api.MostArgs != 12 {
		t.Error("a limit is another one than these tests take it for")
	}
	if api.ArgValue != 1 || api.ArgPred != 2 || api.ArgTrav != 3 || api.ArgWord != 4 {
		t.Error("a kind of arguments is another one than these tests take it for")
	}
}

func TestPreds(t *testing.T) {
	for s, n := range numbers {
		if m, ok := parse.Preds(s); m != n || !ok {
			t.Error(s, m, ok)
		}
	}
	for _, s := range []string{"", "and", "or", "not", "negate", "g", "__", "Eq", "EQ", "eq ", " eq", "eqq", "e", "startingwith", "startsWith", "between1", "with", "is", "has", "true", "in", "eq("} {
		if m, ok := parse.Preds(s); m != 0 || ok {
			t.Error(s, m, ok)
		}
	}
}

// The chapter's own example.
func TestExample(t *testing.T) {
	must(t, "g.V().has('a', gt(1))", step("V"), step("has", value(val.Text("a")), such(pred("gt", val.Int(1)))))
}

func TestText(t *testing.T) {
	must(t, "g.V()", step("V"))
	must(t, "  g . V ( )  ", step("V"))
	must(t, "g.V().V().W()", step("V"), step("V"), step("W"))
	// Any name may be a step's: which are ones is not asked here.
	one := value(val.Int(1))
	for _, s := range []string{"g", "__", "_", "eq", "within", "and", "negate", "true", "false", "null", "abcdefghijklmnop", "f"} {
		must(t, "g."+s+"()", step(s))
		must(t, "g.V()."+s+"(1)", step("V"), step(s, one))
		must(t, "g.V(__."+s+"(1).V())", step("V", trav(step(s, one), step("V"))))
		must(t, "g.V(V()."+s+"(1).V())", step("V", trav(step("V"), step(s, one), step("V"))))
	}
	for _, s := range []string{
		"^", "   ^", "^h", "^G.V()", "^gg.V()", "^'g'.V()", "^1", "^.g", "^__.V()", "^V()", "^()",
		"g^", "g  ^", "g^(", "g^()", "g ^g.V()", "g^,V()", "g^'.'V()", "g^[].V()",
		"g.^", "g. ^", "g.^.", "g.^(", "g.^)", "g.^'V'()", "g.^1()", "g.^[]",
		"g.V^", "g.V^.", "g.V^.out()", "g.V ^1", "g.V ^V()", "g.V^[", "g.V^)", "g.V^'('", "g.__^.V()", "g.V().__^.V()",
		"g.V(^", "g.V(1^", "g.V()^(", "g.V()^)", "g.V() ^V()", "g.V()^,", "g.V()^]", "g.V()^1", "g.V()^'.'", "g.V().^", "g.V().^.", "g.V().^1", "g.V().^)",
	} {
		mustNot(t, s, api.ErrParse)
	}
}

func TestValues(t *testing.T) {
	for s, v := range map[string]api.Value{
		"1": val.Int(1), "0": val.Int(0), "-5": val.Int(-5), "9223372036854775807": val.Int(math.MaxInt64), "-9223372036854775808": val.Int(math.MinInt64),
		"f'3ff0000000000000'": val.Float(1), "f'8000000000000000'": val.Float(math.Copysign(0, -1)), "f'7ff8000000000001'": val.Float(math.NaN()), "f'fff0000000000000'": val.Float(math.Inf(-1)),
		"''": val.Text(""), "'a'": val.Text("a"), "'it\\'s'": val.Text("it's"), "'\\xff'": val.Text("\xff"), "'true'": val.Text("true"), "'['": val.Text("["), "'eq'": val.Text("eq"), "'__'": val.Text("__"),
		"true": val.Yes(true), "false": val.Yes(false), "null": val.None(),
		"[]": val.List(), "[ ]": val.List(), "[1]": val.List(val.Int(1)),
		"[1,'a',true,false,null]": val.List(val.Int(1), val.Text("a"), val.Yes(true), val.Yes(false), val.None()),
		"[[],[1,[2]],3]":          val.List(val.List(), val.List(val.Int(1), val.List(val.Int(2))), val.Int(3)),
		"[" + row(12, "7") + "]":  val.List(sevens(12)...),
	} {
		must(t, "g.V("+s+")", step("V", value(v)))
		must(t, "g.V(x,"+s+",y)", step("V", word("x"), value(v), word("y")))
		must(t, "g.V(["+s+"])", step("V", value(val.List(v))))
		must(t, "g.V(eq("+s+"))", step("V", such(pred("eq", v))))
		must(t, "g.V(within("+s+", 1 ,"+s+"))", step("V", such(pred("within", v, val.Int(1), v))))
	}
	for _, s := range []string{
		"^", "^.", "^(", "^,", "^]", "1^", "1^]", "1^(", "1^()", "1^.", "1 ^1", "1 ^x", "1^'a'", "'a'^'a'", "'a'^.out()", "1^[", "1,^", "1,^)", "1,^,", "1,^.", "1,^]", "1,^(", "^,1",
		"[^", "[^)", "[^.", "[^,", "[^(", "[^x", "[^x()", "[^eq(1)", "[^eq", "[^__.V()", "[^g", "[^True", "[^and", "[1^", "[1^)", "[1 ^1", "[1^.", "[1^[", "[1^'a'", "[1,^", "[1,^]", "[1,^,", "[1,^x]", "[[1]^", "[[1],^", "[1]^]", "[1]^[", "[]^.", "[]^(", "[true^(",
		"true^(", "true^()", "false^(1)", "null^()", "true^.", "true ^false", "true^.V()",
	} {
		mustNot(t, "g.V("+s, api.ErrParse)
		mustNot(t, "g.V(x,"+s, api.ErrParse)
		mustNot(t, "g.V().V(out("+s, api.ErrParse)
	}
}

func TestWords(t *testing.T) {
	for _, s := range []string{"x", "single", "list", "asc", "eq", "within", "between", "and", "negate", "g", "_", "___", "True", "NULL", "nul", "truee", "abcdefghijklmnop", "f"} {
		must(t, "g.V("+s+")", step("V", word(s)))
		must(t, "g.V("+s+" , 1, "+s+")", step("V", word(s), value(val.Int(1)), word(s)))
		must(t, "g.V(V("+s+"))", step("V", trav(step("V", word(s)))))
		for _, end := range []string{"^", "^.", "^.V()", "^.and(eq(1))", " ^1", " ^x", " ^'a'", "^[", "^]"} {
			mustNot(t, "g.V("+s+end, api.ErrParse)
		}
	}
}

func TestTraversals(t *testing.T) {
	must(t, "g.V(out())", step("V", trav(step("out"))))
	must(t, "g.V(__.out())", step("V", trav(step("out"))))
	must(t, "g.V( __ . out ( ) )", step("V", trav(step("out"))))
	must(t, "g.V(out().in(),__.in().out(x))", step("V", trav(step("out"), step("in")), trav(step("in"), step("out", word("x")))))
	must(t, "g.a(b(c(__.d(e)),f)).h()", step("a", trav(step("b", trav(step("c", trav(step("d", word("e"))))), word("f")))), step("h"))
	must(t, "g.V(g())", step("V", trav(step("g"))))
	must(t, "g.V(and(out()))", step("V", trav(step("and", trav(step("out"))))))
	must(t, "g.V(negate())", step("V", trav(step("negate"))))
	must(t, "g.V(not(eq(1)))", step("V", trav(step("not", such(pred("eq", val.Int(1)))))))
	// __ is a name, too, so a step's.
	must(t, "g.V(__.__())", step("V", trav(step("__"))))
	must(t, "g.V(__())", step("V", trav(step("__"))))
	must(t, "g.V(__(x).__())", step("V", trav(step("__", word("x")), step("__"))))
	for _, s := range []string{
		"__^", "__^)", "__^,", "__ ^out()", "__^[", "__ ^1", "__ ^__", "__.^", "__.^)", "__.^(", "__.^.", "__.^1", "__.^'a'", "__.out^", "__.out^)", "__.out^.", "__.__^.out()", "__.true^)", "'__'^.out()",
		"out^.in()", "out().^", "out().^)", "out().in^)", "out().eq^.", "out()^(", "out() ^in()", "out()^[", "out()^]", "out(^", "out(1^", "out()^", "g^.V()",
	} {
		mustNot(t, "g.V("+s, api.ErrParse)
	}
}

func TestPredicates(t *testing.T) {
	for s, n := range numbers {
		for k := range 13 {
			text := s + "(" + row(k, "7") + ")"
			if n != k && n != -1 {
				mustNot(t, "g.V(^"+text+")", api.ErrParse)
				mustNot(t, "g.V(1, ^"+text+".and(eq(1)))", api.ErrParse)
				mustNot(t, "g.V(eq(1).or(^"+text+"))", api.ErrParse)
				continue
			}
			p := pred(s, sevens(k)...)
			must(t, "g.V("+text+")", step("V", such(p)))
			must(t, "g.V("+text+".or("+text+"))", step("V", such(join("or", p, p))))
		}
	}
	must(t, "g.V( eq ( 1 ) )", step("V", such(pred("eq", val.Int(1)))))
	must(t, "g.V(within([1,2],3))", step("V", such(pred("within", val.List(val.Int(1), val.Int(2)), val.Int(3)))))
	for _, s := range []string{
		"eq(^", "eq(^.", "eq(^(", "eq(^,", "eq(^]", "eq(^x", "eq(^x)", "eq(^eq(1))", "eq(^out())", "eq(^__.out())", "eq(1^", "eq(1^]", "eq(1^.", "eq(1 ^1", "eq(1 ^x", "eq(1,^", "eq(1,^)", "eq(1,^x)", "eq(1,^,", "eq(1)^", "eq(1)^(", "eq(1)^]", "eq(1) ^eq(1)", "eq(1) ^1", "eq(1)^'.'",
		"between(1^", "between(1,^)", "between(1,^x)", "between(1,2^", "between(1,2^]", "between(1,2,^)", "within(^,", "within(^(", "within(1,^)", "within(1^", "within([1^)", "within([1]^", "within(1,2,^eq)",
	} {
		mustNot(t, "g.V("+s, api.ErrParse)
	}
}

// Of a predicate with too many values its name is told, which stands ahead of all that is wrong behind it; but what is no value is none too many.
func TestPredicateNumber(t *testing.T) {
	for _, s := range []string{
		"^eq()", "^eq(1,2", "^eq(1,2,x)", "^eq(1,2 3)", "^eq(1,2,3", "^eq(1,[])x", "^eq(" + row(13, "1") + ")", "^eq().x", "^between(1)x", "^between(1,2,3 4)", "^between(" + row(14, "[]") + ")",
		"eq(1).and(^eq())", "eq(1).and(^inside(1).and(x))", "eq(1).negate().or(^gt(1,1",
	} {
		mustNot(t, "g.V("+s, api.ErrParse)
	}
	for _, s := range []string{"eq(1,[^x])", "eq(1,[1 ^2])", "between(1,2,[^", "between(1,2,^)"} {
		mustNot(t, "g.V("+s, api.ErrParse)
	}
}

func TestJoined(t *testing.T) {
	a, b, c := pred("eq", val.Int(1)), pred("lt", val.Text("b")), pred("within")
	for s, p := range map[string]api.Pred{
		"eq(1).and(lt('b'))":                     join("and", a, b),
		"eq(1).or(lt('b'))":                      join("or", a, b),
		"eq(1).negate()":                         join("not", a),
		"eq(1) . negate ( ) . negate ( )":        join("not", join("not", a)),
		"eq(1).and(lt('b')).or(within())":        join("or", join("and", a, b), c),
		"eq(1).or(lt('b')).and(within())":        join("and", join("or", a, b), c),
		"eq(1).and(lt('b').or(within()))":        join("and", a, join("or", b, c)),
		"eq(1).negate().and(lt('b').negate())":   join("and", join("not", a), join("not", b)),
		"within().and(lt('b')).negate()":         join("not", join("and", c, b)),
		"within().or(eq(1).and(eq(1)).negate())": join("or", c, join("not", join("and", a, a))),
	} {
		must(t, "g.V("+s+")", step("V", such(p)))
		must(t, "g.V().has('k' , "+s+" ,x).out()", step("V"), step("has", value(val.Text("k")), such(p), word("x")), step("out"))
		must(t, "g.V("+s+","+s+")", step("V", such(p), such(p)))
	}
	for _, s := range []string{
		".^", ".^)", ".^.", ".^(", ".^x", ".^x()", ".^eq(1)", ".^not()", ".^out()", ".^1", ".^'and'(eq(1))", ".^'negate'()", ".^And(eq(1))", ".^__.and(eq(1))",
		".and^", ".and^)", ".and^.", ".and ^eq(1)", ".and^[", ".or^", ".or^'('", ".negate^", ".negate^)", ".negate^.",
		".and(^", ".and(^)", ".and(^1)", ".and(^x)", ".and(^x())", ".and(^and(eq(1)))", ".and(^__.eq(1))", ".and(^true)", ".and(^'eq'(1))", ".and(^(", ".and(^[", ".or(^out())",
		".and(eq^)", ".and(eq^", ".and(eq^.", ".and(eq ^1", ".and(eq(1)^", ".and(eq(1)^,eq(1))", ".and(eq(1)^]", ".and(eq(1)^(", ".or(eq(1) ^eq(1))",
		".negate(^", ".negate(^1)", ".negate(^eq(1))", ".negate(^x)", ".negate(^.", ".negate()^", ".negate()^(", ".and(eq(1))^", ".and(eq(1))^(", ".and(eq(1)).^", ".and(eq(1)).^out()", ".and(eq(1)) ^x",
	} {
		mustNot(t, "g.V(eq(1)"+s, api.ErrParse)
		mustNot(t, "g.V(eq(1).negate()"+s, api.ErrParse)
		mustNot(t, "g.V(out(within().or(between(1,2)"+s, api.ErrParse)
	}
}

// Errors of lex, and their places, go first.
func TestLexErrors(t *testing.T) {
	for _, s := range []string{"^$", "g.V(^01)", "g.V(^'a", "g.^$", "x y ) ^$", "g.V(^f'1')", "g.V(^aaaaaaaaaaaaaaaaa)", "g" + times(151, ".a()") + "^$"} {
		mustNot(t, s, api.ErrLex)
	}
	mustNot(t, times(3000, " ")+"^ ", api.ErrMost)
	mustNot(t, times(1500, ")")+"^)", api.ErrMost)
	mustNot(t, "^"+times(1500, ")"), api.ErrParse)
	mustNot(t, times(3000, " ")+"^", api.ErrParse)
	may(t, "g.V()"+times(2995, " "))
}

// What is answered is the caller's own.
func TestOwn(t *testing.T) {
	s := "g.V([1,2],within(1,2).and(eq(1)),out(1).in(2))"
	l, _, _ := parse.Parse(s)
	want := told(l)
	m, _, _ := parse.Parse(s)
	m[0].Args[0].V.L[0] = val.Int(9)
	m[0].Args[1].P.Kids[0].L[1] = val.Int(9)
	m[0].Args[2].T[0].Args[0] = word("x")
	m[0].Args = append(m[0].Args[:1], word("x"))
	n, _, _ := parse.Parse(s)
	if told(l) != want || told(n) != want {
		t.Error("what was done to an answer is seen in another one")
	}
}
