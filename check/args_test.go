package check_test

import (
	"math"
	"regexp"
	"strings"
	"testing"

	"offshoot/api"
	"offshoot/check"
	"offshoot/show"
	"offshoot/val"
)

// Arguments of all kinds, each with a letter; those of traversals are filled in by arg.
var letters = map[byte]api.Arg{
	'1': value(val.Int(1)),
	'9': value(val.Int(math.MaxInt64)),
	'0': value(val.Int(0)),
	'-': value(val.Int(-1)),
	'_': value(val.Int(math.MinInt64)),
	'n': name("a"),
	'N': name("_aZ9aaaaaaaaaaaa"),
	'x': name(""),
	'X': name("aaaaaaaaaaaaaaaaa"),
	'y': name("1a"),
	'Y': name("a b"),
	'f': value(val.Float(1)),
	'b': value(val.Yes(true)),
	'u': value(val.None()),
	'l': value(val.List(val.Text("a"), val.Int(1))),
	'm': value(val.Map(val.Text("a"), val.Int(1))),
	'v': value(val.Vertex(1)),
	'e': value(val.Edge(1)),
	'?': value(api.Value{Kind: 9, N: 1, S: "a"}),
	'p': such(api.Pred{Op: "gt", L: []api.Value{val.Int(1)}}),
	't': {Kind: api.ArgTrav},
	'T': {Kind: api.ArgTrav},
	'A': word("asc"),
	'D': word("desc"),
	'S': word("single"),
	'L': word("list"),
	'w': word("a"),
	'W': word("ASC"),
	'o': {V: val.Text("a")},
	'O': {Kind: 5, V: val.Int(1)},
	'q': {Kind: -1, V: val.Text("asc")},
}

const (
	aValue = "[1909_nNxXyYfbulmve?-]"
	aName  = "[nN]"
	aID    = "[19]"
	aCount = "[190]"
	aTrav  = "[tT]"
	aTest  = "[p1909_nNxXyYfbulmve?-]"
)

// takes is the chapter's table, as expressions over letters.
var takes = map[string]string{
	"V E hasId":                  aID + "*",
	"inject":                     aValue + "+",
	"addV addE hasNot as select": aName,
	"has":                        aName + aTest + "?",
	"hasLabel out in both outE inE bothE values": aName + "*",
	"is": aTest,
	"where not optional repeat local until to from": aTrav,
	"and or union coalesce":                         aTrav + "+",
	"choose":                                        aTrav + aTrav + aTrav,
	"limit skip tail times":                         aCount,
	"range":                                         aCount + aCount,
	"constant add mul":                              aValue,
	"property":                                      "[SL]?" + aName + aValue,
	"by":                                            "[nNtT]?[AD]?",
	"dedup simplePath outV inV bothV id label identity": "",
	"path fold unfold count sum min max mean group":     "",
	"groupCount order barrier emit drop":                "",
}

// table is takes by each name.
func table() map[string]*regexp.Regexp {
	all := map[string]*regexp.Regexp{}
	for names, s := range takes {
		for _, n := range strings.Fields(names) {
			all[n] = regexp.MustCompile("^" + s + "$")
		}
	}
	return all
}

// arg is a letter's argument: a traversal's steps are new ones each time.
func arg(c byte) api.Arg {
	switch c {
	case 't':
		return trav(step("out"))
	case 'T':
		return trav(step("V"), step("where", trav(step("id"))))
	}
	return letters[c]
}

func args(s string) []api.Arg {
	var l []api.Arg
	for i := range len(s) {
		l = append(l, arg(s[i]))
	}
	return l
}

// placed is a step where it may stand.
func placed(s api.Step) []api.Step {
	l := []api.Step{step("V")}
	switch s.Name {
	case "by":
		return append(l, step("order"), s)
	case "times", "until", "emit":
		return append(l, step("repeat", arg('t')), s)
	case "to", "from":
		return append(l, step("addE", arg('n')), s)
	case "repeat":
		return append(l, s, step("emit"))
	case "addE":
		return append(l, s, step("to", arg('t')))
	}
	return append(l, s)
}

// asTable holds Check against the table.
func asTable(t *testing.T, name string, may *regexp.Regexp, s string) {
	t.Helper()
	want := api.OK
	if !may.MatchString(s) {
		want = api.ErrArgs
	}
	l := placed(step(name, args(s)...))
	if e := check.Check(l); e != want {
		t.Errorf("%s (%s): %d; must be %d", short(show.Query(l)), s, e, want)
	}
}

// rows calls f for all rows of up to so many of some letters.
func rows(set string, most int, f func(string)) {
	var more func(s string)
	more = func(s string) {
		f(s)
		if len(s) == most {
			return
		}
		for i := range len(set) {
			more(s + set[i:i+1])
		}
	}
	more("")
}

func set() string {
	var b []byte
	for c := range 128 {
		if _, ok := letters[byte(c)]; ok {
			b = append(b, byte(c))
		}
	}
	return string(b)
}

// TestArguments: of every step all rows of up to two arguments (three, where three may be), of four of some, and many.
func TestArguments(t *testing.T) {
	all := table()
	if len(all) != 64 {
		t.Errorf("%d steps; must be 64", len(all))
	}
	for name, may := range all {
		most := 2
		if name == "choose" || name == "property" {
			most = 3
		}
		rows(set(), most, func(s string) { asTable(t, name, may, s) })
		rows("1nptSAo", 4, func(s string) { asTable(t, name, may, s) })
		for _, c := range strings.Split(set(), "") {
			asTable(t, name, may, times(12, c))
			asTable(t, name, may, times(200, c))
			asTable(t, name, may, times(200, c)+"o")
			asTable(t, name, may, "o"+times(200, c))
		}
	}
}

// Arguments as texts have them.
func TestArgumentsOfTexts(t *testing.T) {
	are(t, api.OK,
		"g.V()", "g.V(1)", "g.V(1,1,9223372036854775807)", "g.E(2)", "g.V().hasId(1,2,3)", "g.V().hasId()",
		"g.inject(1)", "g.inject(null,true,'',[],[[]],f'3ff0000000000000')", "g.addV('a')", "g.addV('_1234567890abcde')", "g.V().as('a').select('a')", "g.V().hasNot('a')",
		"g.V().has('a')", "g.V().has('a',1)", "g.V().has('a',null)", "g.V().has('a',gt(1))", "g.V().has('a',within().or(eq(1)))", "g.V().is(1)", "g.V().is(lt(1))", "g.V().is('')",
		"g.V().hasLabel()", "g.V().hasLabel('a','b')", "g.V().out().in('a').both('a','a','a')", "g.V().outE().inE('a').bothE('b')", "g.V().values()", "g.V().values('a','b')",
		"g.V().where(out())", "g.V().where(__.V(1))", "g.V().union(out(),in(),E())", "g.V().choose(out(),in(),id())", "g.V().limit(0)", "g.V().skip(9223372036854775807)", "g.V().tail(2)", "g.V().range(0,0)", "g.V().range(2,1)",
		"g.V().constant([1])", "g.V().add(1).mul('a')", "g.V().property('a',1)", "g.V().property(single,'a',1)", "g.V().property(list,'a','list')",
		"g.V().order().by().by('a').by(id()).by(asc).by(desc).by('a',asc).by(id(),desc)",
	)
	are(t, api.ErrArgs,
		"g.V(0)", "g.V(-1)", "g.V('a')", "g.V(1,f'3ff0000000000000')", "g.V([1])", "g.V(1,null)", "g.V(a)", "g.V(out())", "g.V(gt(1))", "g.E(1,2,0)", "g.V().hasId(0)",
		"g.inject()", "g.inject(a)", "g.inject(1,out())", "g.addV()", "g.addV(a)", "g.addV('')", "g.addV('1')", "g.addV('a','b')", "g.addV('aaaaaaaaaaaaaaaaa')", "g.addV('a-b')", "g.addV(1)", "g.addV(['a'])",
		"g.V().has()", "g.V().has(1)", "g.V().has(gt(1))", "g.V().has('a',b)", "g.V().has('a',out())", "g.V().has('a',1,2)", "g.V().has('',1)", "g.V().has('a','b',gt(1))", "g.V().is()", "g.V().is(a)", "g.V().is(1,2)", "g.V().is(out())",
		"g.V().hasLabel('a','')", "g.V().hasLabel(1)", "g.V().out(a)", "g.V().out('a',in())", "g.V().values('a b')",
		"g.V().where()", "g.V().where('a')", "g.V().where(out(),out())", "g.V().where(gt(1))", "g.V().where(a)", "g.V().and()", "g.V().or(out(),1)", "g.V().union(a)", "g.V().choose(out(),in())", "g.V().choose(out(),in(),id(),id())", "g.V().choose(1,out(),in())",
		"g.V().limit()", "g.V().limit(-1)", "g.V().limit('1')", "g.V().limit(1,2)", "g.V().limit(f'3ff0000000000000')", "g.V().range(1)", "g.V().range(1,-1)", "g.V().range(-1,1)", "g.V().range(1,2,3)", "g.V().constant()", "g.V().constant(1,2)", "g.V().add(a)", "g.V().mul(gt(1))",
		"g.V().property()", "g.V().property('a')", "g.V().property(list)", "g.V().property(list,'a')", "g.V().property('a',1,list)", "g.V().property('a',list)", "g.V().property('list','a',1)", "g.V().property(set,'a',1)", "g.V().property(asc,'a',1)", "g.V().property(single,list,'a',1)", "g.V().property(1,1)", "g.V().property('a',out())", "g.V().property('a',1,2)",
		"g.V().order().by(1)", "g.V().order().by('')", "g.V().order().by(up)", "g.V().order().by(list)", "g.V().order().by(asc,'a')", "g.V().order().by(asc,desc)", "g.V().order().by('a','b')", "g.V().order().by('a',out())", "g.V().order().by('a',asc,desc)", "g.V().order().by('asc',1)", "g.V().order().by(gt(1))",
		"g.V().order(1)", "g.V().dedup('a')", "g.V().count(out())", "g.V().path(a)", "g.V().repeat(out()).emit(out())", "g.V().repeat(out()).emit(true)", "g.V().repeat(out()).times(-1)", "g.V().repeat(out()).until(1)", "g.V().repeat('a').emit()", "g.V().addE('a').to('a')", "g.V().addE().to(out())", "g.V().drop(1)",
	)
}

// A name of a step is one of the table's, letter by letter.
func TestNoStep(t *testing.T) {
	all := table()
	for s := range all {
		for _, n := range []string{strings.ToUpper(s), strings.ToUpper(s[:1]) + s[1:], strings.ToLower(s), s + " ", " " + s, s + s, s[1:], s[:len(s)-1], s + "()", "__." + s, s + "\x00"} {
			if all[n] == nil {
				is(t, api.ErrStep, step("V"), step(n))
				is(t, api.ErrStep, step(n))
			}
		}
	}
	for _, n := range []string{"", "g", "__", "eq", "gt", "within", "negate", "asc", "desc", "single", "list", "true", "null", "iterate", "next", "toList", "otherV", "valueMap", "properties", "aggregate", "sideEffect", "filter", "map", "cap", "sample", "order.by", "repeat.times", "\xff"} {
		is(t, api.ErrStep, step("V"), step(n))
		is(t, api.ErrStep, step("V"), step(n, arg('n'), arg('t')), step("by"))
		is(t, api.ErrStep, step(n))
		is(t, api.ErrStep, step("V"), step("where", trav(step("out"), step(n))))
		is(t, api.ErrStep, step("V"), step("order"), step(n))
	}
}

// What an argument has beside what its kind has is not asked for.
func TestBeside(t *testing.T) {
	bad := []api.Step{step("x")}
	is(t, api.OK, step("V", api.Arg{Kind: api.ArgValue, V: val.Int(1), T: bad}))
	is(t, api.OK, step("V"), step("is", api.Arg{Kind: api.ArgPred, V: val.Text("asc"), T: bad}))
	is(t, api.OK, step("V"), step("order"), step("by", api.Arg{Kind: api.ArgWord, V: val.Text("asc"), T: bad}))
	is(t, api.OK, step("V"), step("group"), step("by", api.Arg{Kind: api.ArgTrav, V: val.Text("asc"), T: []api.Step{step("id")}}))
	is(t, api.OK, step("V"), step("group"), step("by", api.Arg{Kind: api.ArgValue, V: val.Text("asc"), T: bad}))
	is(t, api.ErrArgs, step("V"), step("where", api.Arg{V: val.Text("a"), T: []api.Step{step("id")}}))
	for _, kind := range []int{api.ArgPred, api.ArgTrav, api.ArgWord, 0, 5} {
		is(t, api.ErrArgs, step("V", api.Arg{Kind: kind, V: val.Int(1)}))
		is(t, api.ErrArgs, step("V"), step("limit", api.Arg{Kind: kind, V: val.Int(1)}))
		is(t, api.ErrArgs, step("addV", api.Arg{Kind: kind, V: val.Text("a")}))
	}
}

// A traversal without steps has none that may not be.
func TestNoSteps(t *testing.T) {
	is(t, api.ErrPlace)
	is(t, api.ErrPlace, []api.Step{}...)
	is(t, api.OK, step("V"), step("where", trav()))
	is(t, api.OK, step("V"), step("repeat", trav()), step("until", trav()))
	is(t, api.ErrPlace, step("V"), step("union", trav(), trav(step("by"))))
}
