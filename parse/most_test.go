package parse_test

import (
	"testing"

	"offshoot/api"
	"offshoot/val"
)

// As many arguments and values as may be, and one more.
func TestMostArgs(t *testing.T) {
	for _, s := range []string{"1", "'a'", "true", "[]", "x", "eq(1)", "out()", "__.out()", "within(1).negate()"} {
		most(t, "g.V(", s, ")")
		most(t, "g.V(out().in(", s, "))")
	}
	for _, s := range []string{"1", "'a'", "null", "[]", "[[1]]", "f'0000000000000000'"} {
		most(t, "g.V([", s, "])")
		most(t, "g.V([1,[", s, "]])")
		most(t, "g.V(within(", s, "))")
		most(t, "g.V(1,eq(1).and(without(", s, ")))")
	}
	seven := row(12, "7")
	must(t, "g.V("+seven+").W("+seven+")", step("V", values(sevens(12))...), step("W", values(sevens(12))...))
	must(t, "g.V(["+seven+"],within("+seven+"))", step("V", value(val.List(sevens(12)...)), such(pred("within", sevens(12)...))))
	must(t, "g.V(out("+seven+"),7)", step("V", trav(step("out", values(sevens(12))...)), value(val.Int(7))))
}

func most(t *testing.T, open, s, end string) {
	t.Helper()
	may(t, open+row(12, s)+end)
	mustNot(t, open+times(12, s+",")+"^"+s+end, api.ErrMost)
	mustNot(t, open+times(12, s+" , ")+"^"+s+","+s+end, api.ErrMost)
}

// What begins no argument is none too many; what is wrong within one stands behind its beginning.
func TestMostArgsOrParse(t *testing.T) {
	ahead := times(12, "1,")
	for _, s := range []string{"^)", "^,", "^.", "^]", "^(", "^"} {
		mustNot(t, "g.V("+ahead+s, api.ErrParse)
		mustNot(t, "g.V(["+ahead+s, api.ErrParse)
		mustNot(t, "g.V(within("+ahead+s, api.ErrParse)
	}
	for _, s := range []string{"^x", "^x()", "^__.x()", "^eq(1)"} {
		mustNot(t, "g.V(["+ahead+s, api.ErrParse)
		mustNot(t, "g.V(within("+ahead+s, api.ErrParse)
		mustNot(t, "g.V("+ahead+s, api.ErrMost)
	}
	for _, s := range []string{"^[x", "^x.", "^__", "^__.", "^eq()", "^eq(x", "^1 1", "^true()"} {
		mustNot(t, "g.V("+ahead+s, api.ErrMost)
	}
	mustNot(t, "g.V(["+ahead+"^[x", api.ErrMost)
	mustNot(t, "g.V("+row(12, "1")+" ^1", api.ErrParse)
	// Of two words the first.
	mustNot(t, "g.V("+ahead+"^1).(", api.ErrMost)
	mustNot(t, "g.^(.V("+ahead+"1)", api.ErrParse)
}

// As many steps as may be, of all of the text, and one more.
func TestMostSteps(t *testing.T) {
	a := func(n int) string { return "g" + times(n, ".a()") }
	may(t, a(150))
	mustNot(t, a(150)+".^a()", api.ErrMost)
	mustNot(t, a(150)+" . ^b(1)", api.ErrMost)
	mustNot(t, a(150)+".^b", api.ErrMost)
	for _, s := range []string{"^", "^1", "^)", "^.", "^'a'()"} {
		mustNot(t, a(150)+"."+s, api.ErrParse)
	}
	may(t, a(149)+".a(1,x,eq(1),[1])")
	may(t, a(148)+".a(__.b())")
	may(t, a(148)+".a(b())")
	may(t, "g.a(b(c(d())))"+times(146, ".a()"))
	mustNot(t, "g.a(b(c(d())))"+times(146, ".a()")+".^a()", api.ErrMost)
	mustNot(t, a(149)+".a(^b())", api.ErrMost)
	mustNot(t, a(149)+".a( __ . ^b())", api.ErrMost)
	mustNot(t, a(148)+".a(b().^c())", api.ErrMost)
	mustNot(t, a(148)+".a(b(),^c())", api.ErrMost)
	mustNot(t, a(148)+".a(b()).^c()", api.ErrMost)
	mustNot(t, a(148)+".a(b(__.^c()))", api.ErrMost)
	// Predicates, and what is joined to them, are no steps.
	may(t, a(149)+".a(eq(1).and(eq(1)).negate(),eq(1))")
	// The first word, whatever is wrong behind it.
	mustNot(t, a(150)+".^a(", api.ErrMost)
	mustNot(t, a(149)+"^x.a()", api.ErrParse)
}

func deepList(n int) api.Value {
	v := val.List(sevens(1)...)
	for range n - 1 {
		v = val.List(v)
	}
	return v
}

// Lists and traversals as deep as may be, and deeper.
func TestMostNest(t *testing.T) {
	must(t, "g.V("+nested(12, "[", "7", "]")+")", step("V", value(deepList(12))))
	may(t, "g.V("+nested(12, "[", "", "]")+")")
	mustNot(t, "g.V("+times(12, "[")+"^[7"+times(13, "]")+")", api.ErrMost)
	mustNot(t, "g.V("+times(12, "[")+"^[", api.ErrMost)
	mustNot(t, "g.V("+times(12, "[1,")+"^[", api.ErrMost)
	may(t, "g.V("+nested(12, "a(", "", ")")+")")
	may(t, "g.V("+nested(12, "__.a(", "x,1", ")")+")")
	mustNot(t, "g.V("+times(12, "a(")+"^a()"+times(12, ")")+")", api.ErrMost)
	mustNot(t, "g.V("+times(12, "__.a(")+"^__.a()"+times(12, ")")+")", api.ErrMost)
	mustNot(t, "g.V("+times(12, "a(")+"^a(", api.ErrMost)
	mustNot(t, "g.V("+times(12, "a(")+"^__", api.ErrMost)
	mustNot(t, "g.V("+times(12, "a(")+"^]", api.ErrParse)
	for n := range 13 {
		open, end := times(12-n, "a("), times(12-n, ")")+")"
		may(t, "g.V("+open+nested(n, "[", "1", "]")+end)
		mustNot(t, "g.V("+open+times(n, "[")+"^["+times(n+1, "]")+end, api.ErrMost)
	}
}

// The values of a predicate stand within it, and lists within these.
func TestMostNestValues(t *testing.T) {
	for n := range 12 {
		open, end := times(11-n, "a("), times(11-n, ")")+")"
		for _, s := range []string{"eq(", "within(", "between(1,"} {
			may(t, "g.V("+open+s+nested(n, "[", "1", "]")+")"+end)
			mustNot(t, "g.V("+open+s+times(n, "[")+"^["+times(n+1, "]")+")"+end, api.ErrMost)
		}
	}
	open, end := times(12, "a("), times(12, ")")+")"
	mustNot(t, "g.V("+open+"eq(^1)"+end, api.ErrMost)
	mustNot(t, "g.V("+open+"eq( ^[] )"+end, api.ErrMost)
	mustNot(t, "g.V("+open+"within(^1,2)"+end, api.ErrMost)
	mustNot(t, "g.V("+open+"within(^x)"+end, api.ErrParse)
	mustNot(t, "g.V("+open+"^eq()"+end, api.ErrParse)
	// Where there are none, none is too deep.
	may(t, "g.V("+open+"within()"+end)
}

// All that is joined to a predicate counts until that ends, and not longer.
func TestMostNestJoined(t *testing.T) {
	and, nor := ".and(eq(1))", ".negate()"
	eleven := "eq(1)" + times(11, and)
	may(t, "g.V("+eleven+")")
	mustNot(t, "g.V("+eleven+".and(eq(^1)))", api.ErrMost)
	mustNot(t, "g.V("+eleven+".or(eq(^1)))", api.ErrMost)
	may(t, "g.V("+eleven+nor+")")
	mustNot(t, "g.V("+eleven+nor+"."+"^negate())", api.ErrMost)
	mustNot(t, "g.V("+eleven+nor+".^and(eq(1)))", api.ErrMost)
	mustNot(t, "g.V("+eleven+nor+".^x(eq(1)))", api.ErrParse)
	may(t, "g.V(eq(1)"+times(12, nor)+")")
	mustNot(t, "g.V(eq(1)"+times(12, nor)+".^negate())", api.ErrMost)
	mustNot(t, "g.V(eq(1)"+times(12, ".or(within())")+".^or(within()))", api.ErrMost)
	may(t, "g.V("+nested(11, "eq(1).and(", "eq(1)", ")")+")")
	mustNot(t, "g.V("+times(12, "eq(1).and(")+"eq(^1)"+times(12, ")")+")", api.ErrMost)
	may(t, "g.V("+nested(11, "a(", "eq(1)"+nor, ")")+")")
	mustNot(t, "g.V("+times(11, "a(")+"eq(1)"+nor+".^negate()", api.ErrMost)
	for n := range 11 {
		open := "eq(1)" + times(n+1, and) + ".or(eq("
		deep := 12 - (n + 2) - 1
		if deep < 0 {
			continue
		}
		may(t, "g.V("+open+nested(deep, "[", "1", "]")+")))")
		mustNot(t, "g.V("+open+times(deep, "[")+"^["+times(deep+1, "]")+")))", api.ErrMost)
	}
}

// What ended counts no more.
func TestNestEnds(t *testing.T) {
	eleven := "eq(1)" + times(11, ".and(eq(1))")
	parts := []string{eleven, nested(12, "[", "1", "]"), nested(12, "a(", "", ")"), "eq(" + nested(11, "[", "1", "]") + ")", "eq(1)" + times(12, ".negate()")}
	for _, a := range parts {
		for _, b := range parts {
			may(t, "g.V("+a+","+b+","+a+").V("+b+")")
		}
	}
	may(t, "g.V(["+nested(11, "[", "1", "]")+","+nested(11, "[", "1", "]")+"])")
	may(t, "g.V(within("+nested(11, "[", "1", "]")+","+nested(11, "[", "1", "]")+"))")
	may(t, "g.V(a("+nested(11, "a(", "", ")")+").a("+nested(11, "a(", "", ")")+"))")
	// What is joined to one that is joined ends with that.
	ten := "eq(1)" + times(10, ".and(eq(1))")
	may(t, "g.V(eq(1).and("+ten+")"+times(10, ".and(eq(1))")+")")
	mustNot(t, "g.V(eq(1).and("+ten+")"+times(10, ".and(eq(1))")+".and(eq(^1)))", api.ErrMost)
	mustNot(t, "g.V(eq(1).and("+ten+".and(eq(^1))))", api.ErrMost)
}
