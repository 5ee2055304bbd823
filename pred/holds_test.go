package pred_test

import (
	"math"
	"testing"

	"offshoot/api"
	"offshoot/val"
)

const one, two = "f'3ff0000000000000'", "f'4000000000000000'"

func TestSame(t *testing.T) {
	all := values(t, "null, true, false, 0, 1, -1, "+one, "'a', '', 'ab', [], [1], ['a',[1]]")
	all = append(all, val.Vertex(1), val.Edge(1), val.Vertex(2), val.Map(), val.Map(val.Int(1), val.None()), val.Float(math.NaN()), val.Float(0), val.Float(math.Copysign(0, -1)))
	for i, a := range all {
		for j, b := range all {
			holds(t, i == j, of("eq", a), b)
			holds(t, i != j, of("neq", a), b)
			holds(t, i == j, of("within", a), b)
			holds(t, i != j, of("without", a), b)
			holds(t, i == j, of("within", val.Text("x"), a, val.Int(9)), b)
			holds(t, i != j, of("without", val.Int(9), val.Int(9), a), b)
		}
		holds(t, false, of("within"), a)
		holds(t, true, of("without"), a)
	}
	// What a value has beside what its kind has makes it no other one, and neither do the bits of what is no number.
	holds(t, true, of("eq", val.Int(1)), api.Value{Kind: api.Int, N: 1, S: "x", L: all})
	holds(t, true, of("eq", val.Float(math.NaN())), api.Value{Kind: api.Float, F: math.Float64frombits(0x7ff8000000000002)})
	holds(t, true, of("neq", val.Int(1)), api.Value{Kind: 9, N: 1}, api.Value{Kind: -1})
}

func TestOrdered(t *testing.T) {
	rows := values(t, "[false,true], [-5,3], ["+one+",3], ["+one+","+two+"], [1,"+one+"], ['','a']", " ['a','ab'], ['ab','b'], [[],[1]], [[1],[1,0]], [[1,9],[2]], [1,'a'], [false,0], ['a',[]], [null,false]")
	rows = append(rows, list(val.Vertex(1), val.Vertex(2)), list(val.Edge(3), val.Edge(4)), list(val.Map(), val.Map(val.Int(1), val.Int(1))), list(val.Int(0), val.Float(0)), list(val.Float(math.Copysign(0, -1)), val.Int(0)),
		list(val.Float(math.Inf(1)), val.Float(math.NaN())), list(val.Int(math.MaxInt64), val.Float(math.NaN())), list(val.Vertex(9), val.Edge(1)))
	for _, row := range rows {
		a, b := row.L[0], row.L[1]
		ok := a.Kind == b.Kind || a.Kind+b.Kind == api.Int+api.Float && a.Kind > 1 && b.Kind > 1
		for _, op := range []string{"lt", "lte"} {
			holds(t, ok, of(op, b), a)
			holds(t, false, of(op, a), b)
		}
		for _, op := range []string{"gt", "gte"} {
			holds(t, ok, of(op, a), b)
			holds(t, false, of(op, b), a)
		}
		for _, v := range row.L {
			holds(t, false, of("lt", v), v)
			holds(t, false, of("gt", v), v)
			holds(t, true, of("lte", v), v)
			holds(t, true, of("gte", v), v)
		}
	}
	holds(t, true, of("lte", val.None()), val.None())
	such(t, false, "lt(5)", values(t, "'a','',null,true,[],[1],5,6")...)
	such(t, false, "gt(5)", values(t, "'a','6',null,true,[],[6],5,4")...)
	such(t, false, "gte(5)", append(values(t, "'a','6',null,true,[],[6],4"), val.Vertex(6), val.Edge(5), api.Value{Kind: 9, N: 6}, api.Value{Kind: -1, N: 6})...)
	such(t, false, "lte(5)", append(values(t, "'a','4',null,true,[],[4],6"), val.Vertex(4), val.Edge(5), api.Value{Kind: 9, N: 4}, api.Value{Kind: -1, N: 4})...)
}

func TestSpans(t *testing.T) {
	such(t, true, "between(2,5)", values(t, "2,3,4,"+two)...)
	such(t, false, "between(2,5)", values(t, "1,5,6,"+one+",'a',null,[3],true")...)
	such(t, true, "inside(2,5)", values(t, "3,4,"+two)...)
	such(t, false, "inside(2,5)", values(t, "1,2,5,6,"+one+",'a',null,[3],true")...)
	such(t, true, "outside(2,5)", values(t, "1,0,-9,6,7,"+one)...)
	such(t, false, "outside(2,5)", values(t, "2,3,4,5,"+two)...)
	// What is of another kind is neither below nor above.
	such(t, false, "outside(2,5)", append(values(t, "'a','',null,[3],true,[]"), val.Vertex(1), val.Edge(9), val.Map())...)
	such(t, true, "outside(2,5).negate()", values(t, "'a',null")...)
	such(t, true, "between('b','d')", values(t, "'b','bz','c'")...)
	such(t, false, "between('b','d')", values(t, "'a','d','da',3,[],null")...)
	such(t, true, "inside([1],[3])", values(t, "[1,0],[2],[2,9]")...)
	such(t, true, "outside([1],[3])", values(t, "[],[0],[3,1],[4]")...)
	// Nothing stands between, or all is without, where the second one is not above the first.
	for _, v := range values(t, "1,2,3,4,5") {
		such(t, false, "between(4,2)", v)
		such(t, false, "between(3,3)", v)
		such(t, false, "inside(4,2)", v)
		such(t, false, "inside(3,3)", v)
		such(t, true, "outside(4,2)", v)
		such(t, v.N != 3, "outside(3,3)", v)
	}
	// Each of the two is asked for by itself.
	such(t, false, "between(1,'c')", values(t, "0,2,'b','d',null")...)
	such(t, false, "between('c',1)", values(t, "0,2,'b','d',null")...)
	such(t, false, "inside(1,'c')", values(t, "0,2,'b','d',null")...)
	such(t, false, "inside('c',1)", values(t, "0,2,'b','d',null")...)
	such(t, true, "outside(1,'c')", values(t, "0,"+"'d'")...)
	such(t, false, "outside(1,'c')", values(t, "1,2,'b','c',null,true,[1]")...)
	such(t, true, "outside('c',1)", values(t, "'b',2")...)
	such(t, false, "outside('c',1)", values(t, "'c','d',1,0,null,true,[1]")...)
	such(t, true, "between(1,"+two+")", values(t, "1,"+one+",2")...)
}

func TestTexts(t *testing.T) {
	such(t, true, "startingWith('ab')", values(t, "'ab','abc','abab'")...)
	such(t, false, "startingWith('ab')", values(t, "'','a','b','xab','aab','AB'")...)
	such(t, true, "endingWith('ab')", values(t, "'ab','cab','abab'")...)
	such(t, false, "endingWith('ab')", values(t, "'','a','b','abx','abb','AB'")...)
	such(t, true, "containing('ab')", values(t, "'ab','cab','abc','xabx','aab','abb'")...)
	such(t, false, "containing('ab')", values(t, "'','a','b','ba','axb','AB'")...)
	for _, op := range []string{"startingWith", "endingWith", "containing"} {
		such(t, true, op+"('')", values(t, "'','a','ab'")...)
		such(t, true, op+"('\\xff')", values(t, "'\\xff'")...)
		others := append(values(t, "null,true,1,[],['ab'],"+one), val.Vertex(1), val.Edge(1), val.Map(val.Text("ab"), val.Text("ab")))
		such(t, false, op+"('')", others...)
		for _, v := range others {
			holds(t, false, of(op, v), v, val.Text(""), val.Text("ab"))
		}
		// Only a text has one.
		holds(t, false, of(op, val.Text("")), api.Value{Kind: api.Int, S: "ab"}, api.Value{S: "ab"}, api.Value{Kind: 9, S: "ab"})
	}
}

func TestJoined(t *testing.T) {
	a, b := of("gt", val.Int(1)), of("lt", val.Int(4))
	for n := range int64(6) {
		v, x, y := val.Int(n), n > 1, n < 4
		holds(t, x && y, join("and", a, b), v)
		holds(t, x || y, join("or", a, b), v)
		holds(t, !x, join("not", a), v)
		holds(t, x, join("not", join("not", a)), v)
		holds(t, !x && y, join("and", join("not", a), b), v)
		holds(t, x || !y, join("or", a, join("not", b)), v)
		holds(t, !(x && y), join("not", join("and", a, b)), v)
	}
	for _, l := range [][]api.Pred{{no(), no()}, {no(), yes()}, {yes(), no()}, {yes(), yes()}} {
		x, y := l[0].Op == "without", l[1].Op == "without"
		holds(t, x && y, join("and", l...), val.None())
		holds(t, x || y, join("or", l...), val.None())
	}
	such(t, true, "lt(5).negate()", values(t, "'a',null,5,6")...)
	such(t, true, "lt(2).or(gt(4)).and(neq(9))", values(t, "1,5")...)
	such(t, false, "lt(2).or(gt(4)).and(neq(9))", values(t, "2,3,4,9")...)
	such(t, true, "gt(4).and(neq(9)).or(lt(2))", values(t, "1,5")...)
	such(t, true, "lt(2).or(gt(4).and(neq(1)))", values(t, "1,5")...)
}

// By what may not be nothing is such, also where what may be would tell it.
func TestNone(t *testing.T) {
	some := append(values(t, "null,true,0,7,'a','',[],"+one), val.Vertex(1), val.Map())
	for op, l := range numbers {
		for n := range 15 {
			if may := contains(l, n); !may {
				holds(t, false, of(op, sevens(n)...), some...)
				holds(t, false, join("not", of(op, sevens(n)...)), some...)
				holds(t, false, join("or", yes(), of(op, sevens(n)...)), some...)
				holds(t, false, join("or", of(op, sevens(n)...), yes()), some...)
			}
		}
		holds(t, false, api.Pred{Op: op, L: sevens(1), Kids: []api.Pred{yes()}}, some...)
		holds(t, false, api.Pred{Op: op, L: sevens(2), Kids: []api.Pred{yes(), yes()}}, some...)
	}
	holds(t, false, join("and"), some...)
	holds(t, false, join("not"), some...)
	holds(t, false, join("or", yes()), some...)
	holds(t, false, join("not", no(), no()), some...)
	holds(t, false, join("and", yes(), yes(), yes()), some...)
	holds(t, false, api.Pred{}, some...)
}

func contains(l []int, n int) bool {
	for _, x := range l {
		if x == n {
			return true
		}
	}
	return false
}
