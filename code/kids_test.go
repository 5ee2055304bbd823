package code_test

import (
	"testing"

	"offshoot/api"
	"offshoot/code"
	"offshoot/val"
)

// Bodies get their places as they are come to, each with all within it ahead of what comes next.
func TestTraversals(t *testing.T) {
	are(t,
		"g.V().where(out())", "1; 12 K=1 / 20 N=1,0", "g.V().not(out())", "1; 13 K=1 / 20 N=1,0", "g.V().optional(out())", "1; 40 K=1 / 20 N=1,0", "g.V().local(out().limit(1))", "1; 43 K=1 / 20 N=1,0; 17 N=0,1",
		"g.V().and(id())", "1; 14 K=1 / 23", "g.V().and(id(),label())", "1; 14 K=1,2 / 23 / 24", "g.V().or(id(),label(),out())", "1; 15 K=1,2,3 / 23 / 24 / 20 N=1,0", "g.V().union(id())", "1; 38 K=1 / 23", "g.V().union(id(),id())", "1; 38 K=1,2 / 23 / 23", "g.V().coalesce(label(),id())", "1; 39 K=1,2 / 24 / 23",
		"g.V().choose(out(),in(),id())", "1; 41 K=1,2,3 / 20 N=1,0 / 20 N=2,0 / 23",
		"g.V().where(id()).not(label()).where(path())", "1; 12 K=1; 13 K=2; 12 K=3 / 23 / 24 / 27",
		"g.V().where(not(where(id())))", "1; 12 K=1 / 13 K=2 / 12 K=3 / 23",
		"g.V().union(where(id()),where(label())).where(path())", "1; 38 K=1,3; 12 K=5 / 12 K=2 / 23 / 12 K=4 / 24 / 27",
		"g.V().union(id(),and(union(label(),V()),path()),E()).not(drop())", "1; 38 K=1,2,7; 13 K=8 / 23 / 14 K=3,6 / 38 K=4,5 / 24 / 1 / 27 / 2 / 46",
	)
}

func TestRepeats(t *testing.T) {
	are(t,
		"g.V().repeat(out()).times(2)", "1; 42 N=2 K=1,-1 / 20 N=1,0", "g.V().repeat(out()).times(0)", "1; 42 N=0 K=1,-1 / 20 N=1,0", "g.V().repeat(out()).times(9223372036854775807)", "1; 42 N=9223372036854775807 K=1,-1 / 20 N=1,0",
		"g.V().repeat(out()).emit()", "1; 42 N=-1 K=1,-1 F / 20 N=1,0", "g.V().repeat(out()).until(id())", "1; 42 N=-1 K=1,2 / 20 N=1,0 / 23",
		"g.V().repeat(out()).until(id()).times(3)", "1; 42 N=3 K=1,2 / 20 N=1,0 / 23", "g.V().repeat(out()).times(3).until(id())", "1; 42 N=3 K=1,2 / 20 N=1,0 / 23",
		"g.V().repeat(out()).emit().times(1).until(id())", "1; 42 N=1 K=1,2 F / 20 N=1,0 / 23", "g.V().repeat(out()).until(id()).times(1).emit().id()", "1; 42 N=1 K=1,2 F; 23 / 20 N=1,0 / 23",
		"g.V().repeat(where(id())).until(where(label())).where(path())", "1; 42 N=-1 K=1,3; 12 K=5 / 12 K=2 / 23 / 12 K=4 / 24 / 27",
		"g.V().repeat(repeat(out()).times(2).until(id())).emit().until(label())", "1; 42 N=-1 K=1,4 F / 42 N=2 K=2,3 / 20 N=1,0 / 23 / 24",
		"g.V().repeat(out()).times(1).repeat(in()).times(2)", "1; 42 N=1 K=1,-1; 42 N=2 K=2,-1 / 20 N=1,0 / 20 N=2,0",
	)
}

// The body of to is the first of Kids, whichever of both comes first.
func TestAddE(t *testing.T) {
	are(t,
		"g.V().addE('a').to(id())", "1; 5 S=a K=1,-1 / 23", "g.V().addE('a').from(id())", "1; 5 S=a K=-1,1 / 23", "g.V().addE('a').to(id()).from(label())", "1; 5 S=a K=1,2 / 23 / 24", "g.V().addE('a').from(label()).to(id())", "1; 5 S=a K=2,1 / 24 / 23",
		"g.V().addE('a').from(where(id())).to(where(label())).where(path())", "1; 5 S=a K=3,1; 12 K=5 / 12 K=2 / 23 / 12 K=4 / 24 / 27", "g.V().addE('a').to(addE('b').from(id())).from(label())", "1; 5 S=a K=1,3 / 5 S=b K=-1,2 / 23 / 24",
		"g.V().addE('a').to(id()).addE('b').from(label()).property('c',1)", "1; 5 S=a K=1,-1; 5 S=b K=-1,2; 45 S=c V=[1] / 23 / 24",
	)
}

func TestBys(t *testing.T) {
	are(t,
		"g.V().dedup()", "1; 16 K=-1", "g.V().dedup().by()", "1; 16 K=-1", "g.V().dedup().by('a')", "1; 16 K=1 / 22 S=a", "g.V().dedup().by(id())", "1; 16 K=1 / 23",
		"g.V().groupCount()", "1; 35 K=-1", "g.V().groupCount().by()", "1; 35 K=-1", "g.V().groupCount().by('a')", "1; 35 K=1 / 22 S=a", "g.V().groupCount().by(out().id())", "1; 35 K=1 / 20 N=1,0; 23",
		"g.V().group()", "1; 34 K=-1,-1", "g.V().group().by()", "1; 34 K=-1,-1", "g.V().group().by('a')", "1; 34 K=1,-1 / 22 S=a", "g.V().group().by().by('a')", "1; 34 K=-1,1 / 22 S=a", "g.V().group().by('a').by()", "1; 34 K=1,-1 / 22 S=a", "g.V().group().by(id()).by('b')", "1; 34 K=1,2 / 23 / 22 S=b", "g.V().group().by().by()", "1; 34 K=-1,-1",
		"g.V().group().by(where(id())).by(where(label())).where(path())", "1; 34 K=1,3; 12 K=5 / 12 K=2 / 23 / 12 K=4 / 24 / 27",
		"g.V().group().group().by('a').dedup().groupCount().by('b').id()", "1; 34 K=-1,-1; 34 K=1,-1; 16 K=-1; 35 K=2; 23 / 22 S=a / 22 S=b",
	)
}

func TestOrder(t *testing.T) {
	are(t,
		"g.V().order()", "1; 36 N=0 K=-1", "g.V().order().by()", "1; 36 N=0 K=-1", "g.V().order().by(asc)", "1; 36 N=0 K=-1", "g.V().order().by(desc)", "1; 36 N=1 K=-1", "g.V().order().by().by()", "1; 36 N=0,0 K=-1,-1", "g.V().order().by().by(desc)", "1; 36 N=0,1 K=-1,-1",
		"g.V().order().by('a')", "1; 36 N=0 K=1 / 22 S=a", "g.V().order().by('a',asc)", "1; 36 N=0 K=1 / 22 S=a", "g.V().order().by('a',desc)", "1; 36 N=1 K=1 / 22 S=a", "g.V().order().by(id(),desc)", "1; 36 N=1 K=1 / 23", "g.V().order().by(id(),asc)", "1; 36 N=0 K=1 / 23",
		"g.V().order().by('desc')", "1; 36 N=0 K=1 / 22 S=desc", "g.V().order().by('desc',asc)", "1; 36 N=0 K=1 / 22 S=desc", "g.V().order().by('asc',desc)", "1; 36 N=1 K=1 / 22 S=asc",
		"g.V().order().by('a').by().by(where(id()),desc).by(desc).by('b',asc).where(path())", "1; 36 N=0,0,1,1,0 K=1,-1,2,-1,4; 12 K=5 / 22 S=a / 12 K=3 / 23 / 22 S=b / 27",
		"g.V().order().by(order().by('a',desc).by('b')).order().by(desc)", "1; 36 N=0 K=1; 36 N=1 K=-1 / 36 N=1,0 K=2,3 / 22 S=a / 22 S=b",
		"g.V().order()"+times(12, ".by(id(),desc)"), "1; 36 N=1"+times(11, ",1")+" K=1,2,3,4,5,6,7,8,9,10,11,12"+times(12, " / 23"),
	)
}

// As deep as anything may stand.
func TestDeep(t *testing.T) {
	const levels = 1 << 16
	s, p, v := step("id"), api.Pred{Op: "eq"}, val.None()
	for range levels {
		s = step("not", trav(s))
		p = api.Pred{Op: "not", Kids: []api.Pred{p}}
		v = api.Value{Kind: api.List, L: []api.Value{v}}
	}
	got, e := code.Compile([]api.Step{step("V"), s, step("is", such(p)), step("constant", value(v))})
	if e != api.OK || len(got.Bodies) != levels+1 {
		t.Fatalf("%d, %d bodies", e, len(got.Bodies))
	}
	for i, b := range got.Bodies[1:levels] {
		if len(b) != 1 || toldIns(b[0]) != "13 K="+row([]int{i + 2}) {
			t.Fatalf("%d: %v", i+1, b)
		}
	}
	first := got.Bodies[0]
	if told(api.Prog{Bodies: got.Bodies[levels:]}) != "23" || len(first) != 4 || toldIns(first[1]) != "13 K=1" || !alikePred(first[2].P, p) || !alikeValue(first[3].V[0], v) {
		t.Error("the deepest ones are others")
	}
}

// Many steps, and many bodies.
func TestMany(t *testing.T) {
	const many = 100000
	l := []api.Step{step("V")}
	for range many {
		l = append(l, step("order"), step("by", name("a"), word("desc")))
	}
	p, e := code.Compile(l)
	if e != api.OK || len(p.Bodies) != many+1 || len(p.Bodies[0]) != many+1 {
		t.Fatalf("%d, %d bodies", e, len(p.Bodies))
	}
	for i := range many {
		if toldIns(p.Bodies[0][i+1]) != "36 N=1 K="+row([]int{i + 1}) || told(api.Prog{Bodies: p.Bodies[i+1 : i+2]}) != "22 S=a" {
			t.Fatalf("%d: %v, %v", i, p.Bodies[0][i+1], p.Bodies[i+1])
		}
	}
}
