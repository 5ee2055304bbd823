package pred_test

import (
	"math"
	"strings"
	"testing"

	"offshoot/api"
	"offshoot/pred"
	"offshoot/val"
)

// How many values each predicate has.
var numbers = map[string][]int{
	"eq": {1}, "neq": {1}, "lt": {1}, "lte": {1}, "gt": {1}, "gte": {1}, "startingWith": {1}, "endingWith": {1}, "containing": {1},
	"between": {2}, "inside": {2}, "outside": {2},
	"within": {0, 1, 2, 3, 4, 5, 6, 7, 8, 9, 10, 11, 12}, "without": {0, 1, 2, 3, 4, 5, 6, 7, 8, 9, 10, 11, 12},
	"": {}, "negate": {}, "Eq": {}, "EQ": {}, "eq ": {}, " eq": {}, "e": {}, "is": {}, "true": {}, "startingwith": {}, "And": {}, "nand": {}, "AND": {}, "or ": {}, "nott": {}, "n": {}, "xor": {}, "between\x00": {},
}

func TestNumberOfValues(t *testing.T) {
	for op, l := range numbers {
		for n := range 20 {
			want := false
			for _, x := range l {
				want = want || x == n
			}
			may(t, want, of(op, sevens(n)...))
			may(t, want, api.Pred{Op: op, L: sevens(n), Kids: []api.Pred{}})
			may(t, false, api.Pred{Op: op, L: sevens(n), Kids: []api.Pred{yes()}}, api.Pred{Op: op, L: sevens(n), Kids: []api.Pred{yes(), yes(), no()}})
			if n > 0 {
				may(t, false, api.Pred{Op: op, L: sevens(n), Kids: []api.Pred{yes(), yes()}})
			}
		}
	}
}

func TestNumberOfKids(t *testing.T) {
	for op, n := range map[string]int{"and": 2, "or": 2, "not": 1, "eq": 0, "within": 0, "between": 0, "": 0, "nor": 0} {
		for k := range 6 {
			p := api.Pred{Op: op}
			for range k {
				p.Kids = append(p.Kids, of("eq", val.Int(1)))
			}
			want := k == n && n > 0 || k == 0 && op == "within"
			may(t, want, p, join("not", p), join("and", p, p), join("or", yes(), p))
			p.L = sevens(1)
			may(t, k == 0 && (op == "eq" || op == "within"), p)
		}
	}
}

// What may not be makes none of what stands around it.
func TestKids(t *testing.T) {
	good, bad := of("eq", val.Int(1)), of("eq")
	may(t, true, join("not", good), join("and", good, good), join("or", good, good))
	may(t, false, join("not", bad), join("and", good, bad), join("and", bad, good), join("or", good, bad), join("or", bad, good))
	for n := range 12 {
		may(t, true, nots(n, good), behind(n, "or", no(), good))
		may(t, false, nots(n, bad), around(n, "or", bad, good), behind(n, "or", good, bad), around(n, "and", bad, no()), behind(n, "and", no(), bad))
	}
}

// Each value may be, wherever it stands.
func TestValues(t *testing.T) {
	good := []api.Value{val.None(), val.Yes(true), val.Int(math.MinInt64), val.Float(math.NaN()), val.Float(math.Copysign(0, -1)), val.Text(""), val.Text(strings.Repeat("x", api.MostStr)),
		list(), val.Map(val.Int(1), val.None()), val.Vertex(1), val.Edge(math.MaxInt64), list(sevens(api.MostList)...), deep(api.MostDeep)}
	bad := []api.Value{{Kind: -1}, {Kind: 9}, {N: 1}, {Kind: api.Int, S: "x"}, val.Vertex(0), val.Edge(-1), {Kind: api.Map, L: sevens(1)}, {Kind: api.Map, L: sevens(4)},
		val.Text(strings.Repeat("x", api.MostStr+1)), list(sevens(api.MostList + 1)...), deep(api.MostDeep + 1), list(val.Vertex(0))}
	for op, l := range numbers {
		for _, n := range l {
			for at := range n {
				values := sevens(n)
				for _, v := range good {
					values[at] = v
					may(t, true, of(op, values...))
				}
				for _, v := range bad {
					values[at] = v
					may(t, false, of(op, values...), join("not", of(op, values...)))
					holds(t, false, of(op, values...), v, val.Int(7))
				}
			}
		}
	}
}

func deep(n int) api.Value {
	v := val.Int(1)
	for range n - 1 {
		v = list(v)
	}
	return v
}

// As many joined as may stand within one another, and one more.
func TestMostNest(t *testing.T) {
	for _, leaf := range []api.Pred{no(), of("eq", val.Int(1)), of("within", sevens(12)...), of("eq", deep(api.MostDeep))} {
		for n := range 20 {
			want := n <= api.MostNest
			may(t, want, nots(n, leaf), around(n, "and", leaf, yes()), around(n, "or", leaf, yes()), behind(n, "and", yes(), leaf), behind(n, "or", yes(), leaf))
			for m := range n {
				may(t, want, nots(m, behind(n-m, "or", yes(), leaf)), around(m, "or", nots(n-m, leaf), yes()), behind(m, "and", yes(), around(n-m, "or", leaf, no())))
				may(t, want, join("and", nots(m, leaf), nots(n-1, leaf)), join("or", nots(n-1, leaf), nots(m, leaf)))
			}
		}
	}
	holds(t, true, nots(12, of("eq", val.Int(1))), val.Int(1))
	holds(t, false, nots(12, of("eq", val.Int(1))), val.Int(2))
	holds(t, false, nots(13, of("eq", val.Int(1))), val.Int(1), val.Int(2))
	holds(t, false, nots(14, of("eq", val.Int(1))), val.Int(1), val.Int(2))
}

// What a text has joined may be, as many as it may have.
func TestParsed(t *testing.T) {
	for _, s := range []string{
		"within()", "without(" + strings.TrimSuffix(times(12, "7,"), ",") + ")", "eq(" + times(11, "[") + "1" + times(11, "]") + ")",
		"eq(1)" + times(12, ".negate()"), "within()" + times(12, ".and(within())"), "eq(1)" + times(11, ".or(eq(1))"), "eq(1)" + times(11, ".or(eq(1))") + ".negate()",
		times(11, "eq(1).and(") + "eq(1)" + times(11, ")"), times(12, "eq(1).and(") + "within()" + times(12, ")"), times(11, "eq(1).and(") + "eq(1).negate()" + times(11, ")"),
		"eq(1)" + times(6, ".negate()") + ".and(eq(2)" + times(5, ".negate()") + ")",
	} {
		may(t, true, parsed(t, s))
	}
}

// What is nested as deep as anything may be, and what is as long.
func TestDeep(t *testing.T) {
	const most = 1 << 16
	may(t, false, nots(most, yes()), around(most, "and", yes(), yes()), behind(most, "or", yes(), yes()), of("eq", deep(most)), nots(12, of("within", val.Int(1), deep(most))))
	may(t, false, of("within", sevens(most)...), of("eq", sevens(most)...), api.Pred{Op: "and", Kids: make([]api.Pred, most)}, api.Pred{Op: strings.Repeat("and", most), L: sevens(1)})
	for _, p := range []api.Pred{nots(most, yes()), behind(most, "or", yes(), yes()), of("neq", deep(most)), of("without", sevens(most)...)} {
		holds(t, false, p, val.Int(1), deep(most), val.Text(times(most, "x")))
	}
	holds(t, true, of("neq", deep(api.MostDeep)), deep(most), list(sevens(most)...), val.Text(times(most, "x")))
	holds(t, true, of("gt", deep(api.MostDeep)), deep(most))
	holds(t, true, of("containing", val.Text("y")), val.Text(times(most, "x")+"y"))
}

// One that stands in many places counts in each, and takes no more time than so many would.
func TestShared(t *testing.T) {
	p := of("eq", val.Int(1))
	for range 12 {
		p = join("or", p, p)
	}
	may(t, true, p)
	may(t, false, join("or", p, p), join("not", p))
	holds(t, true, p, val.Int(1))
	holds(t, false, p, val.Int(2))
	for range 1 << 10 {
		p = join("and", p, p)
	}
	may(t, false, p)
	v := val.Int(1)
	for range 100 {
		v = list(v, v, v)
	}
	may(t, false, of("eq", v), join("and", of("eq", v), yes()))
	holds(t, true, of("neq", list(val.Int(1))), v)
}

// What is handed in is as it was.
func TestUnchanged(t *testing.T) {
	for _, s := range []string{"within([3],[1,[2]],0,[3]).and(neq([4]).or(eq([5,[6]]))).negate()", "between([2],[1]).negate()", "startingWith('a').or(outside(2,1))"} {
		p, want := parsed(t, s), parsed(t, s)
		for _, v := range values(t, "[3],[1,[2]],'a',1,null") {
			was := val.Copy(v)
			if pred.Check(p); pred.Holds(p, v) != pred.Holds(p, v) || !alikePred(p, want) || !alikeValue(v, was) {
				t.Errorf("%s of %v: is %v", s, v, p)
			}
		}
	}
}
