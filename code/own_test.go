package code_test

import (
	"testing"

	"offshoot/api"
	"offshoot/code"
	"offshoot/val"
)

// spoilValues makes others of all values, of those within them, too.
func spoilValues(l []api.Value) {
	for i := range l {
		spoilValues(l[i].L)
		l[i] = val.Text("spoilt")
	}
}

func spoilPred(p *api.Pred) {
	spoilValues(p.L)
	for i := range p.Kids {
		spoilPred(&p.Kids[i])
		p.Kids[i] = api.Pred{Op: "spoilt"}
	}
}

func spoilSteps(l []api.Step) {
	for i := range l {
		for j := range l[i].Args {
			a := &l[i].Args[j]
			spoilValues(a.V.L)
			spoilPred(&a.P)
			spoilSteps(a.T)
			*a = word("spoilt")
		}
		l[i] = step("spoilt")
	}
}

func spoilIns(in *api.Ins) {
	spoilValues(in.V)
	spoilPred(&in.P)
	for i := range in.S {
		in.S[i] = "spoilt"
	}
	for i := range in.N {
		in.N[i] = 99
	}
	for i := range in.Kids {
		in.Kids[i] = 99
	}
}

func spoilProgram(p api.Prog) {
	for i, b := range p.Bodies {
		for j := range b {
			spoilIns(&b[j])
			b[j] = api.Ins{Op: 99}
		}
		p.Bodies[i] = nil
	}
}

// listed are texts in which all that has lists stands.
var listed = []string{
	"g.inject([1,[2,3]],[[4],5]).constant([[6]]).add([7]).mul([8,[9]]).property('a',[10,[11]]).property(list,'b',[[12]])",
	"g.V(1,2).has('a',[1,[2]]).is([[3],4]).has('a',within([1,[2]],3).and(neq([4]).or(eq([5,[6]]))).negate()).is(between([1],[2]).negate())",
	"g.V().where(has('a',within([1]))).union(inject([1]),repeat(out('a','b').is([2])).until(is(eq([3]).or(eq([4])))).times(2)).order().by('a',desc).by(values('b','c')).group().by('a').by(fold()).addE('a').from(V(1,2)).to(V(3))",
}

// What is done to the steps later changes no program, and what is done to a program no steps, and no other program.
func TestOwn(t *testing.T) {
	for _, s := range listed {
		l, m := steps(t, s), steps(t, s)
		want, _ := code.Compile(m)
		p, e := code.Compile(l)
		if e != api.OK || !alike(p, want) {
			t.Fatalf("%s: %d, %s", s, e, told(p))
		}
		spoilSteps(l)
		if !alike(p, want) {
			t.Errorf("%s: what is done to the steps is done to %s", s, told(p))
		}
		q, e := code.Compile(m)
		spoilProgram(p)
		again, f := code.Compile(m)
		if e != api.OK || f != api.OK || !alike(q, want) || !alike(again, want) {
			t.Errorf("%s: what is done to a program is done to %s, or %s", s, told(q), told(again))
		}
	}
}

// The steps are as they were, whether they may be or not.
func TestUnchanged(t *testing.T) {
	for _, s := range append(listed, "g.V().has('a',within([1],[2])).repeat(out('a'))", "g.V(1).order().by('a',desc).x()") {
		l, m := steps(t, s), steps(t, s)
		for range 3 {
			code.Compile(l)
		}
		p, e := code.Compile(l)
		q, f := code.Compile(m)
		if e != f || !alike(p, q) {
			t.Errorf("%s: %d, %s; must be %d, %s", s, e, told(p), f, told(q))
		}
	}
}

// last is the address of the last thing that a list has room for: lists that share any have the same.
func last[T any](seen map[any]int, l []T) {
	if cap(l) > 0 {
		seen[&l[:cap(l)][cap(l)-1]]++
	}
}

func lastOfValues(seen map[any]int, l []api.Value) {
	last(seen, l)
	for _, v := range l {
		lastOfValues(seen, v.L)
	}
}

func lastOfPred(seen map[any]int, p api.Pred) {
	lastOfValues(seen, p.L)
	last(seen, p.Kids)
	for _, k := range p.Kids {
		lastOfPred(seen, k)
	}
}

func lastOfProgram(seen map[any]int, p api.Prog) {
	last(seen, p.Bodies)
	for _, b := range p.Bodies {
		last(seen, b)
		for _, in := range b {
			last(seen, in.S)
			last(seen, in.N)
			last(seen, in.Kids)
			lastOfValues(seen, in.V)
			lastOfPred(seen, in.P)
		}
	}
}

func lastOfSteps(seen map[any]int, l []api.Step) {
	last(seen, l)
	for _, s := range l {
		last(seen, s.Args)
		for _, a := range s.Args {
			lastOfValues(seen, a.V.L)
			lastOfPred(seen, a.P)
			lastOfSteps(seen, a.T)
		}
	}
}

// No two lists of a program share anything, though the steps' lists do.
func TestNoSharing(t *testing.T) {
	inner := val.List(val.Int(1))
	v := api.Value{Kind: api.List, L: []api.Value{inner, inner}}
	p := api.Pred{Op: "within", L: []api.Value{v, v}}
	q := api.Pred{Op: "and", Kids: []api.Pred{p, p}}
	s := []api.Step{step("is", such(q)), step("has", name("a"), value(v)), step("out", name("a"), name("b")), step("V", number(1), number(2))}
	l := []api.Step{
		step("inject", value(v), value(v)), step("union", trav(s...), trav(s...)), step("is", such(q)), step("property", name("a"), value(v)), step("limit", number(1)), step("order"), step("by", name("a")), step("by", trav(s...)),
		step("group"), step("by", trav(s...)), step("group"), step("dedup"), step("count"), step("outV"), step("repeat", trav(s...)), step("times", number(2)), step("addE", name("a")), step("to", trav(s...)),
	}
	for _, steps := range [][]api.Step{l, steps(t, listed[0]), steps(t, listed[1]), steps(t, listed[2])} {
		got, e := code.Compile(steps)
		again, f := code.Compile(steps)
		if e != api.OK || f != api.OK {
			t.Fatal(e, f)
		}
		seen, given := map[any]int{}, map[any]int{}
		lastOfProgram(seen, got)
		lastOfProgram(seen, again)
		lastOfSteps(given, steps)
		for k, n := range seen {
			if n > 1 || given[k] > 0 {
				t.Errorf("%T: lists that share", k)
			}
		}
	}
}
