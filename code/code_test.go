package code_test

import (
	"math"
	"testing"

	"offshoot/api"
	"offshoot/check"
	"offshoot/code"
	"offshoot/val"
)

// What stands in the chapter's table, row by row.
func TestNumbers(t *testing.T) {
	are(t,
		"g.V()", "1", "g.V(1)", "1 N=1", "g.V(3,1,3,9223372036854775807)", "1 N=3,1,3,9223372036854775807",
		"g.E()", "2", "g.E(7,2)", "2 N=7,2",
		"g.V().hasId()", "1; 10", "g.V(1).hasId(2,1)", "1 N=1; 10 N=2,1",
		"g.V().tail(0)", "1; 18 N=0", "g.V().tail(9223372036854775807)", "1; 18 N=9223372036854775807",
		"g.V().limit(0)", "1; 17 N=0,0", "g.V().limit(5)", "1; 17 N=0,5", "g.V().skip(0)", "1; 17 N=0,-1", "g.V().skip(9)", "1; 17 N=9,-1",
		"g.V().range(2,5)", "1; 17 N=2,5", "g.V().range(5,2)", "1; 17 N=5,2", "g.V().range(0,0)", "1; 17 N=0,0",
	)
}

func TestValues(t *testing.T) {
	are(t,
		"g.inject(1)", "3 V=[1]", "g.inject('a',null,[1,[true]],f'3ff0000000000000')", "3 V=['a', null, [1, [true]], f'3ff0000000000000']", "g.inject(null)", "3 V=[null]",
		"g.V().constant('a')", "1; 25 V=['a']", "g.V().constant([])", "1; 25 V=[[]]", "g.V().constant(null)", "1; 25 V=[null]",
		"g.V().add(1)", "1; 29 V=[1]", "g.V().add([1,2])", "1; 29 V=[[1, 2]]", "g.V().mul(-2)", "1; 30 V=[-2]", "g.V().mul(f'8000000000000000')", "1; 30 V=[f'8000000000000000']",
	)
	is(t, "3 V=[{'a', 1}, v(2), e(3), ?]", step("inject", value(val.Map(val.Text("a"), val.Int(1))), value(val.Vertex(2)), value(val.Edge(3)), value(api.Value{Kind: 9})))
}

func TestNames(t *testing.T) {
	are(t,
		"g.addV('a')", "4 S=a", "g.V().has('a')", "1; 6 S=a", "g.V().hasNot('a')", "1; 8 S=a", "g.V().select('a')", "1; 28 S=a", "g.V().as('a')", "1; 44 S=a",
		"g.V().hasLabel()", "1; 9", "g.V().hasLabel('a')", "1; 9 S=a", "g.V().hasLabel('b','a','b')", "1; 9 S=b,a,b", "g.V().values()", "1; 22", "g.V().values('a','b')", "1; 22 S=a,b",
	)
}

func TestPredicates(t *testing.T) {
	are(t,
		"g.V().has('a',gt(1))", "1; 7 S=a P=gt(1)", "g.V().has('a',1)", "1; 7 S=a P=eq(1)", "g.V().has('a','b')", "1; 7 S=a P=eq('b')", "g.V().has('a',null)", "1; 7 S=a P=eq(null)", "g.V().has('a',[1,2])", "1; 7 S=a P=eq([1, 2])",
		"g.V().has('a',eq(1))", "1; 7 S=a P=eq(1)", "g.V().has('a',within())", "1; 7 S=a P=within()", "g.V().has('a',between(1,2).or(eq('x')).negate())", "1; 7 S=a P=between(1, 2).or(eq('x')).negate()",
		"g.V().is(1)", "1; 11 P=eq(1)", "g.V().is('')", "1; 11 P=eq('')", "g.V().is(false)", "1; 11 P=eq(false)", "g.V().is([])", "1; 11 P=eq([])", "g.V().is(neq(1))", "1; 11 P=neq(1)", "g.V().is(within(1,2,3))", "1; 11 P=within(1, 2, 3)",
		"g.V().is(lt(1).and(gt(2).and(eq(3))).or(eq(4)))", "1; 11 P=lt(1).and(gt(2).and(eq(3))).or(eq(4))",
	)
	// What no text has is handed on as it is.
	odd := api.Pred{Op: "and", L: []api.Value{val.Int(1)}, Kids: []api.Pred{{Op: "x"}, {Kids: []api.Pred{{L: []api.Value{{Kind: 7, N: -1, S: "s", B: true, F: 2}}}}}, {}}}
	p, e := code.Compile([]api.Step{step("V"), step("is", such(odd)), step("has", name("a"), such(odd)), step("is", such(api.Pred{}))})
	want := api.Prog{Bodies: [][]api.Ins{{{Op: 1}, {Op: 11, P: odd}, {Op: 7, S: []string{"a"}, P: odd}, {Op: 11}}}}
	if e != api.OK || !alike(p, want) {
		t.Errorf("%d, %v; must be %v", e, p, want)
	}
}

func TestWalks(t *testing.T) {
	are(t,
		"g.V().out()", "1; 20 N=1,0", "g.V().in()", "1; 20 N=2,0", "g.V().both()", "1; 20 N=3,0", "g.V().outE()", "1; 20 N=1,1", "g.V().inE()", "1; 20 N=2,1", "g.V().bothE()", "1; 20 N=3,1",
		"g.V().out('a')", "1; 20 S=a N=1,0", "g.V().in('a','b')", "1; 20 S=a,b N=2,0", "g.V().both('b','a')", "1; 20 S=b,a N=3,0", "g.V().outE('a')", "1; 20 S=a N=1,1", "g.V().inE('b')", "1; 20 S=b N=2,1", "g.V().bothE('a','a')", "1; 20 S=a,a N=3,1",
		"g.V().outV()", "1; 21 N=1", "g.V().inV()", "1; 21 N=2", "g.V().bothV()", "1; 21 N=3",
	)
}

func TestAlone(t *testing.T) {
	are(t,
		"g.V().simplePath()", "1; 19", "g.V().id()", "1; 23", "g.V().label()", "1; 24", "g.V().identity()", "1; 26", "g.V().path()", "1; 27", "g.V().fold()", "1; 31", "g.V().unfold()", "1; 32", "g.V().barrier()", "1; 37", "g.V().drop()", "1; 46",
		"g.V().count()", "1; 33 N=1", "g.V().sum()", "1; 33 N=2", "g.V().min()", "1; 33 N=3", "g.V().max()", "1; 33 N=4", "g.V().mean()", "1; 33 N=5",
		"g.V().property('a',1)", "1; 45 S=a V=[1]", "g.V().property(single,'a','list')", "1; 45 S=a V=['list']", "g.V().property(list,'b',[2])", "1; 45 S=b V=[[2]] F", "g.V().property('list',null)", "1; 45 S=list V=[null]", "g.V().property(single,'list',true)", "1; 45 S=list V=[true]",
	)
}

// Each instruction has its constant's number.
func TestConstants(t *testing.T) {
	got := []int{
		api.OpV, api.OpE, api.OpInject, api.OpAddV, api.OpAddE, api.OpHas, api.OpHasP, api.OpHasNot, api.OpHasL, api.OpHasID, api.OpIs, api.OpWhere, api.OpNot, api.OpAnd, api.OpOr, api.OpDedup, api.OpRange, api.OpTail, api.OpSimple, api.OpWalk, api.OpEnds, api.OpValues, api.OpID, api.OpLabel,
		api.OpConst, api.OpIdent, api.OpPath, api.OpSelect, api.OpAdd, api.OpMul, api.OpFold, api.OpUnfold, api.OpReduce, api.OpGroup, api.OpCounts, api.OpOrder, api.OpBarrier, api.OpUnion, api.OpFirst, api.OpMaybe, api.OpChoose, api.OpRepeat, api.OpLocal, api.OpAs, api.OpProp, api.OpDrop,
	}
	for i, n := range got {
		if n != i+1 {
			t.Errorf("%d; must be %d", n, i+1)
		}
	}
}

// A text that may not be has check's error, and no program.
func TestErrors(t *testing.T) {
	not(t, api.ErrPlace)
	not(t, api.ErrPlace, []api.Step{}...)
	for s, want := range map[string]api.Errno{
		"g.V().x()": api.ErrStep, "g.x()": api.ErrStep, "g.V().where(out().x())": api.ErrStep, "g.V().repeat(x()).emit()": api.ErrStep, "g.V().out().order().by(x())": api.ErrStep,
		"g.V(0)": api.ErrArgs, "g.inject()": api.ErrArgs, "g.V().has()": api.ErrArgs, "g.V().limit(-1)": api.ErrArgs, "g.V().range(1)": api.ErrArgs, "g.V().property('a')": api.ErrArgs, "g.V().group().by(desc)": api.ErrArgs, "g.V().choose(id(),id())": api.ErrArgs, "g.V().where(is())": api.ErrArgs, "g.V().addE('a').to()": api.ErrArgs, "g.V().order().by(1)": api.ErrArgs,
		"g.out()": api.ErrPlace, "g.V().by()": api.ErrPlace, "g.V().repeat(out())": api.ErrPlace, "g.V().addE('a')": api.ErrPlace, "g.V().addE('a').to(V()).to(V())": api.ErrPlace, "g.V().group().by().by().by()": api.ErrPlace, "g.V().dedup().by().by()": api.ErrPlace, "g.V().where(by())": api.ErrPlace, "g.V().repeat(out()).emit().emit()": api.ErrPlace,
	} {
		not(t, want, steps(t, s)...)
	}
	not(t, api.ErrStep, api.Step{})
	not(t, api.ErrArgs, step("V", api.Arg{}))
	not(t, api.ErrArgs, step("V"), step("has", name("a"), api.Arg{Kind: 5}))
	not(t, api.ErrArgs, step("V"), step("property", word("list"), name("a")))
	not(t, api.ErrPlace, step("V"), step("until", trav()))
}

// What check lets by is not asked for anything more: lengths, values and predicates that may not be are codec's.
func TestNoMoreAsked(t *testing.T) {
	var ids []api.Arg
	var bys []api.Step
	want := "1 N=1"
	for i := range 300 {
		ids = append(ids, number(int64(i+1)))
		if i > 0 {
			want += "," + row([]int{i + 1})
		}
	}
	is(t, want, step("V", ids...))
	for range 12 {
		bys = append(bys, step("by"))
	}
	is(t, "1; 36 N=0"+times(11, ",0")+" K=-1"+times(11, ",-1"), append([]api.Step{step("V"), step("order")}, bys...)...)
	long := val.Text(times(1000, "a"))
	is(t, "3 V=['"+long.S+"', v(0), ?]", step("inject", value(long), value(val.Vertex(0)), value(api.Value{Kind: -1})))
	is(t, "1; 12 K=1 / ", step("V"), step("where", trav()))
	is(t, "1; 42 N=-1 K=1,2 /  / ", step("V"), step("repeat", trav()), step("until", trav()))
}

// What an argument has beside what its kind has is no part of the program.
func TestBeside(t *testing.T) {
	x := []api.Step{step("x")}
	p := api.Pred{Op: "gt", L: []api.Value{val.Int(1)}}
	is(t, "1 N=4; 11 P=eq(5); 11 P=gt(1)", step("V", api.Arg{Kind: api.ArgValue, V: val.Int(4), P: p, T: x}), step("is", api.Arg{Kind: api.ArgValue, V: val.Int(5), P: p, T: x}), step("is", api.Arg{Kind: api.ArgPred, V: val.Int(6), P: p, T: x}))
	is(t, "1; 36 N=1,0,0 K=-1,1,2 / 23 / 22 S=desc", step("V"), step("order"), step("by", api.Arg{Kind: api.ArgWord, V: val.Text("desc"), P: p, T: x}), step("by", api.Arg{Kind: api.ArgTrav, V: val.Text("desc"), P: p, T: []api.Step{step("id")}}), step("by", api.Arg{Kind: api.ArgValue, V: val.Text("desc"), P: p, T: x}))
	is(t, "1; 45 S=list V=[1]", step("V"), step("property", name("list"), number(1)))
	is(t, "1; 45 S=a V=[1] F", step("V"), step("property", api.Arg{Kind: api.ArgWord, V: api.Value{Kind: api.Int, S: "list", N: 3}}, name("a"), number(1)))
}

// Values come through as they are, bit by bit.
func TestBits(t *testing.T) {
	for _, v := range []api.Value{
		{Kind: api.Float, F: math.Copysign(0, -1)}, {Kind: api.Float, F: math.NaN()}, {Kind: api.Float, F: math.Float64frombits(0xfff8000000000123)}, {Kind: api.Float, F: math.Inf(-1)},
		{Kind: api.Int, N: math.MinInt64, S: "s", B: true, F: 1, L: []api.Value{{Kind: 12}}}, {Kind: api.Map, L: []api.Value{val.Int(2), val.Int(1), val.Int(1)}}, {Kind: api.Str, S: "\x00\xff"}, {},
	} {
		l := []api.Step{step("inject", value(v), value(v)), step("constant", value(v)), step("add", value(v)), step("mul", value(v)), step("property", name("a"), value(v)), step("is", value(v)), step("has", name("a"), value(v)), step("has", name("a"), such(api.Pred{Op: "within", L: []api.Value{v, v}}))}
		one := []api.Value{v}
		two := []api.Value{v, v}
		a := []string{"a"}
		want := api.Prog{Bodies: [][]api.Ins{{{Op: 3, V: two}, {Op: 25, V: one}, {Op: 29, V: one}, {Op: 30, V: one}, {Op: 45, S: a, V: one}, {Op: 11, P: api.Pred{Op: "eq", L: one}}, {Op: 7, S: a, P: api.Pred{Op: "eq", L: one}}, {Op: 7, S: a, P: api.Pred{Op: "within", L: two}}}}}
		if p, e := code.Compile(l); e != api.OK || !alike(p, want) {
			t.Errorf("%d, %v; must be %v", e, p, want)
		}
	}
}

// What may be has a program, what may not has none.
func TestAsCheck(t *testing.T) {
	arg := map[byte]api.Arg{'1': number(1), 'n': name("a"), 't': trav(step("id")), 'p': such(api.Pred{Op: "eq", L: []api.Value{val.Int(1)}}), 'D': word("desc"), 'L': word("list"), 'o': {}}
	n := 0
	for _, s := range []string{"V", "E", "hasId", "inject", "addV", "addE", "hasNot", "as", "select", "has", "hasLabel", "out", "in", "both", "outE", "inE", "bothE", "values", "is", "where", "not", "optional", "repeat", "local", "until", "to", "from", "and", "or", "union", "coalesce", "choose", "limit", "skip", "tail", "times", "range", "constant", "add", "mul", "property", "by", "dedup", "simplePath", "outV", "inV", "bothV", "id", "label", "identity", "path", "fold", "unfold", "count", "sum", "min", "max", "mean", "group", "groupCount", "order", "barrier", "emit", "drop", "x", ""} {
		for _, a := range []string{"", "1", "n", "t", "p", "D", "L", "o", "11", "nn", "n1", "np", "n1", "nD", "tD", "tt", "ttt", "tttt", "Ln1", "Lnn", "Dn1", "LnL", "111", "nnn"} {
			var l []api.Arg
			for i := range len(a) {
				l = append(l, arg[a[i]])
			}
			for _, host := range []string{"", "order", "group", "repeat", "addE", "-"} {
				n += asCheck(t, []api.Step{step("V"), step(host), step(s, l...)}, host)
			}
		}
	}
	if n < 300 {
		t.Errorf("%d that may be", n)
	}
}

// asCheck asks for the program of a row of steps, whose second one is made such as may be, or left out: 1, if there is one.
func asCheck(t *testing.T, l []api.Step, host string) int {
	t.Helper()
	switch host {
	case "":
		l = l[2:]
	case "-":
		l[1] = l[0]
	case "repeat":
		l[1].Args = []api.Arg{trav(step("id"))}
	case "addE":
		l[1].Args = []api.Arg{name("a")}
	}
	if e := check.Check(l); e != api.OK {
		not(t, e, l...)
		return 0
	}
	p, e := code.Compile(l)
	if e != api.OK || len(p.Bodies) == 0 || len(p.Bodies[0]) == 0 {
		t.Errorf("%v: %d, %s", l, e, told(p))
	}
	for _, b := range p.Bodies {
		for _, in := range b {
			if in.Op < api.OpV || in.Op > api.OpDrop {
				t.Errorf("%v: %s", l, told(p))
			}
		}
	}
	return 1
}
