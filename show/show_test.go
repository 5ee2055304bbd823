package show_test

import (
	"math"
	"strings"
	"testing"

	"offshoot/api"
	"offshoot/show"
	"offshoot/val"
)

func TestPlainValues(t *testing.T) {
	valueIs(t, val.None(), "null")
	valueIs(t, val.Yes(true), "true")
	valueIs(t, val.Yes(false), "false")
	for n, want := range map[int64]string{0: "0", 7: "7", -7: "-7", 1000: "1000", math.MaxInt64: "9223372036854775807", math.MinInt64: "-9223372036854775808"} {
		valueIs(t, val.Int(n), want)
	}
	for want, f := range map[string]float64{
		"f'0000000000000000'": 0, "f'8000000000000000'": minus0, "f'3ff0000000000000'": 1, "f'c000000000000000'": -2, "f'3fb999999999999a'": 0.1,
		"f'0000000000000001'": 5e-324, "f'7ff0000000000000'": inf, "f'fff0000000000000'": -inf, "f'7ff8000000000001'": math.NaN(),
	} {
		valueIs(t, val.Float(f), want)
	}
	valueIs(t, api.Value{Kind: api.Float, F: math.Float64frombits(0xfff8000000000007)}, "f'7ff8000000000001'")
	for s, want := range map[string]string{"": "''", "a": "'a'", " ~": "' ~'", "'": `'\''`, `\`: `'\\'`, "a\n": `'a\x0a'`, "\x00\x7f\xff": `'\x00\x7f\xff'`, "é": `'\xc3\xa9'`, "(), [] {}": "'(), [] {}'", "null": "'null'"} {
		valueIs(t, val.Text(s), want)
	}
	valueIs(t, val.Text(times(4000, "a")), "'"+times(4000, "a")+"'")
}

func TestEnds(t *testing.T) {
	for n, want := range map[int64]string{1: "1", 12: "12", 0: "0", -3: "-3", math.MaxInt64: "9223372036854775807", math.MinInt64: "-9223372036854775808"} {
		valueIs(t, val.Vertex(n), "v("+want+")")
		valueIs(t, val.Edge(n), "e("+want+")")
	}
}

func TestLists(t *testing.T) {
	valueIs(t, val.List(), "[]")
	valueIs(t, api.Value{Kind: api.List, L: []api.Value{}}, "[]")
	valueIs(t, val.List(val.Int(1)), "[1]")
	valueIs(t, val.List(val.None()), "[null]")
	valueIs(t, val.List(val.Int(1), val.Int(2)), "[1, 2]")
	valueIs(t, val.List(val.List()), "[[]]")
	valueIs(t, val.List(val.List(), val.List()), "[[], []]")
	valueIs(t, val.List(val.None(), val.Yes(true), val.Int(-1), val.Float(1), val.Text(", "), val.List(val.Vertex(1)), val.Map(val.Int(1), val.Edge(2))),
		"[null, true, -1, f'3ff0000000000000', ', ', [v(1)], {1, e(2)}]")
	var l []api.Value
	for range 2000 {
		l = append(l, val.Int(1))
	}
	valueIs(t, val.List(l...), "["+spread(row(2000, "1"))+"]")
}

// A map's parts are its keys and its values by turns, as they stand.
func TestMaps(t *testing.T) {
	valueIs(t, val.Map(), "{}")
	valueIs(t, val.Map(val.Text("a"), val.Int(1)), "{'a', 1}")
	valueIs(t, val.Map(val.Text("b"), val.Int(2), val.Text("a"), val.Int(1)), "{'a', 1, 'b', 2}")
	valueIs(t, val.Map(val.List(), val.Map(), val.Map(val.Int(1), val.Int(2)), val.List(val.Int(3))), "{[], {}, {1, 2}, [3]}")
	valueIs(t, api.Value{Kind: api.Map, L: []api.Value{val.Int(2), val.None(), val.Int(1)}}, "{2, null, 1}")
}

func TestOtherKinds(t *testing.T) {
	for _, kind := range []int{-1, 9, 10, 63, 256, math.MaxInt, math.MinInt} {
		v := api.Value{Kind: kind, B: true, N: 1, F: 1, S: "a", L: []api.Value{val.Int(1)}}
		valueIs(t, v, "?")
		valueIs(t, val.List(v, val.Map(v, v)), "[?, {?, ?}]")
		predIs(t, pred("eq", v), "eq(?)")
		argIs(t, value(v), "?")
	}
}

// What a value has that its kind has not says nothing.
func TestOnlyItsKind(t *testing.T) {
	full := func(kind int) api.Value {
		return api.Value{Kind: kind, B: true, N: 5, F: 2, S: "s", L: []api.Value{val.Int(8)}}
	}
	for kind, want := range []string{"null", "true", "5", "f'4000000000000000'", "'s'", "[8]", "{8}", "v(5)", "e(5)"} {
		valueIs(t, full(kind), want)
	}
}

func TestPlainPredicates(t *testing.T) {
	one := []api.Value{val.Int(1)}
	for _, op := range []string{"eq", "neq", "lt", "lte", "gt", "gte", "startingWith", "endingWith", "containing"} {
		predIs(t, pred(op, one...), op+"(1)")
	}
	for _, op := range []string{"between", "inside", "outside"} {
		predIs(t, pred(op, val.Text("a"), val.Float(0)), op+"('a', f'0000000000000000')")
	}
	for _, op := range []string{"within", "without"} {
		predIs(t, pred(op), op+"()")
		predIs(t, pred(op, val.List()), op+"([])")
		predIs(t, pred(op, val.None(), val.List(val.Int(1), val.Int(2)), val.Yes(false)), op+"(null, [1, 2], false)")
	}
}

func TestJoinedPredicates(t *testing.T) {
	a, b, c := pred("gt", val.Int(1)), pred("between", val.Int(2), val.Int(3)), pred("within")
	predIs(t, join("and", a, b), "gt(1).and(between(2, 3))")
	predIs(t, join("or", a, b), "gt(1).or(between(2, 3))")
	predIs(t, join("not", a), "gt(1).negate()")
	predIs(t, join("not", join("not", b)), "between(2, 3).negate().negate()")
	// What stands ahead of a point is all that is ahead, what stands in the bracket the other one whole.
	predIs(t, join("or", join("and", a, b), c), "gt(1).and(between(2, 3)).or(within())")
	predIs(t, join("and", a, join("or", b, c)), "gt(1).and(between(2, 3).or(within()))")
	predIs(t, join("not", join("or", a, b)), "gt(1).or(between(2, 3)).negate()")
	predIs(t, join("or", a, join("not", b)), "gt(1).or(between(2, 3).negate())")
	predIs(t, join("and", join("not", a), join("not", join("and", b, c))), "gt(1).negate().and(between(2, 3).and(within()).negate())")
	predIs(t, join("or", join("and", a, b), join("and", b, a)), "gt(1).and(between(2, 3)).or(between(2, 3).and(gt(1)))")
}

// Predicates that parse never makes are told without a panic: by name and values, if they are not joined as parse joins them.
func TestOtherPredicates(t *testing.T) {
	a := pred("gt", val.Int(1))
	predIs(t, api.Pred{}, "()")
	predIs(t, pred("none", val.Int(1), val.Int(2)), "none(1, 2)")
	predIs(t, pred("eq"), "eq()")
	predIs(t, pred("eq", val.Int(1), val.Int(2)), "eq(1, 2)")
	for _, op := range []string{"and", "or", "not"} {
		predIs(t, join(op), op+"()")
		predIs(t, join(op, a, a, a), op+"()")
		predIs(t, pred(op, val.Int(1)), op+"(1)")
	}
	predIs(t, join("and", a), "and()")
	predIs(t, join("or", a), "or()")
	predIs(t, join("not", a, a), "not()")
	for _, op := range []string{"", "an", "andy", "negate", "nor", "And", "xor", "within"} {
		predIs(t, join(op, a), op+"()")
		predIs(t, join(op, a, a), op+"()")
	}
	predIs(t, api.Pred{Op: "eq", L: []api.Value{val.Int(2)}, Kids: []api.Pred{a, a}}, "eq(2)")
	predIs(t, api.Pred{Op: "lt", L: []api.Value{val.Int(2)}, Kids: []api.Pred{a}}, "lt(2)")
}

func TestSteps(t *testing.T) {
	stepsAre(t, "")
	stepsAre(t, "V()", step("V"))
	stepsAre(t, "V()", api.Step{Name: "V", Args: []api.Arg{}})
	stepsAre(t, "V().out()", step("V"), step("out"))
	stepsAre(t, "V(1, 2).has('a').x_9()", step("V", value(val.Int(1)), value(val.Int(2))), step("has", value(val.Text("a"))), step("x_9"))
	stepsAre(t, "has('a', gt(1).and(lt(5)))", step("has", value(val.Text("a")), such(join("and", pred("gt", val.Int(1)), pred("lt", val.Int(5))))))
	stepsAre(t, "order().by('b', desc)", step("order"), step("by", value(val.Text("b")), word("desc")))
	stepsAre(t, "()", api.Step{})
}

func TestArgs(t *testing.T) {
	argIs(t, value(val.None()), "null")
	argIs(t, value(val.List(val.Int(1), val.Text("x"))), "[1, 'x']")
	argIs(t, value(val.Map(val.Int(1), val.Vertex(2))), "{1, v(2)}")
	argIs(t, such(pred("within", val.Int(1), val.Int(2))), "within(1, 2)")
	argIs(t, such(join("not", pred("eq", val.Int(1)))), "eq(1).negate()")
	argIs(t, word("asc"), "asc")
	argIs(t, word("eq"), "eq")
	argIs(t, trav(step("out")), "__.out()")
	argIs(t, trav(step("out", value(val.Text("a"))), step("in")), "__.out('a').in()")
	argIs(t, trav(step("eq", value(val.Int(1)))), "__.eq(1)")
	argIs(t, trav(step("__")), "__.__()")
	argIs(t, trav(step("a", trav(step("b", trav(step("c")), trav(step("d")))), word("e"))), "__.a(__.b(__.c(), __.d()), e)")
}

// Arguments that parse never makes are told without a panic.
func TestOtherArgs(t *testing.T) {
	argIs(t, trav(), "__.")
	argIs(t, word(""), "")
	for _, kind := range []int{0, -1, 5, 9, math.MaxInt, math.MinInt} {
		argIs(t, api.Arg{Kind: kind, V: val.Text("a"), P: pred("eq", val.Int(1)), T: []api.Step{step("x")}}, "?")
	}
}

// What an argument has that its kind has not says nothing.
func TestOnlyItsArg(t *testing.T) {
	for kind, want := range map[int]string{api.ArgValue: "'a'", api.ArgPred: "eq(1)", api.ArgTrav: "__.x()", api.ArgWord: "a"} {
		argIs(t, api.Arg{Kind: kind, V: val.Text("a"), P: pred("eq", val.Int(1)), T: []api.Step{step("x")}}, want)
	}
}

// What is handed in stays as it is, and may be told once more.
func TestUnchanged(t *testing.T) {
	fresh := func() []api.Step {
		return []api.Step{step("a", value(val.List(val.Int(1), val.Map(val.Int(2), val.Int(3)))), such(join("and", pred("eq", val.Int(4)), join("not", pred("within", val.Int(5), val.Int(6)))))), step("b", trav(step("c"), step("d", word("e"))))}
	}
	l := fresh()
	const want = "g.a([1, {2, 3}], eq(4).and(within(5, 6).negate())).b(__.c().d(e))"
	for range 3 {
		if got := show.Query(l); got != want {
			t.Error(got)
		}
		if !alike(l, fresh()) {
			t.Error("steps are changed")
		}
	}
}

// So deep that parts told as texts of their own would be copied for seconds, and lists for longer.
func TestDeep(t *testing.T) {
	const deep = 1 << 16
	list, tree := val.List(), val.Map()
	ahead, behind := pred("eq", val.Int(1)), pred("eq", val.Int(1))
	not := pred("eq", val.Int(1))
	steps := []api.Step{step("x")}
	for range deep {
		list = api.Value{Kind: api.List, L: []api.Value{list}}
		tree = api.Value{Kind: api.Map, L: []api.Value{val.Int(1), tree}}
		ahead, behind = join("and", ahead, pred("eq", val.Int(1))), join("or", pred("eq", val.Int(1)), behind)
		not = join("not", not)
		steps = []api.Step{step("x", trav(steps...))}
	}
	same := func(what, got, want string) {
		if got != want {
			t.Errorf("%s: %s; must be %s", what, short(got), short(want))
		}
	}
	same("list", show.Value(list), times(deep+1, "[")+times(deep+1, "]"))
	same("map", show.Value(tree), times(deep, "{1, ")+"{}"+times(deep, "}"))
	same("ahead", show.Pred(ahead), "eq(1)"+times(deep, ".and(eq(1))"))
	same("behind", show.Pred(behind), times(deep, "eq(1).or(")+"eq(1)"+times(deep, ")"))
	same("not", show.Pred(not), "eq(1)"+times(deep, ".negate()"))
	same("steps", show.Steps(steps), strings.Replace(times(deep+1, "__.x("), "__.", "", 1)+times(deep+1, ")"))
}
