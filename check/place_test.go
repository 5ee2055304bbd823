package check_test

import (
	"testing"

	"offshoot/api"
)

// What a text begins with; a traversal may begin with any step but those that belong to another one.
func TestBegins(t *testing.T) {
	are(t, api.OK, "g.V()", "g.V(1)", "g.E()", "g.addV('a')", "g.inject(1)", "g.V().V()", "g.V().E(1).addV('a').inject(2)")
	are(t, api.ErrPlace,
		"g.out()", "g.hasId(1)", "g.id()", "g.addE('a').to(V())", "g.has('a')", "g.where(V())", "g.union(V(),E())", "g.constant(1)", "g.property('a',1)", "g.count()", "g.order().by('a')", "g.repeat(out()).times(1)", "g.drop()", "g.limit(1)", "g.choose(id(),id(),id())",
		"g.by()", "g.times(1)", "g.until(id())", "g.emit()", "g.to(V())", "g.from(V())", "g.out().V()", "g.identity().V()",
	)
	for _, s := range []string{"V()", "E()", "addV('a')", "inject(1)", "out()", "hasId(1)", "addE('a').from(V())", "has('a')", "where(V())", "count()", "order().by('a',desc)", "repeat(out()).times(1)", "drop()", "union(out(),in()).id()"} {
		inner(t, api.OK, s)
	}
	inner(t, api.ErrPlace, "by()", "times(1)", "until(id())", "emit()", "to(V())", "from(V())", "by().order()", "emit().repeat(out())")
}

// pair asks for the error of chains in a text, and in traversals.
func pair(t *testing.T, want api.Errno, chains ...string) {
	t.Helper()
	for _, s := range chains {
		are(t, want, "g.V()."+s, "g.V().out()."+s, "g.V().order().by()."+s, "g.V().repeat(out()).emit().until(id()).times(1)."+s)
	}
	inner(t, want, chains...)
}

func TestByOfOrder(t *testing.T) {
	pair(t, api.OK, "order()", "order().by()", "order().by('a').by(id()).by(desc).by(id(),asc)", "order()"+times(12, ".by()"), "order()"+times(12, ".by()")+".order()"+times(12, ".by(id(),desc)"), "order()"+times(11, ".by()")+".by(asc).id()", "order().by(order()"+times(12, ".by()")+")"+times(11, ".by()"))
	pair(t, api.ErrPlace, "order()"+times(13, ".by()"), "order()"+times(12, ".by('a')")+".by(desc)", "order()"+times(13, ".by()")+".order()", "order().id().by()", "order().by().id().by()", "order().order().id().by(asc)")
}

func TestByOfGroups(t *testing.T) {
	pair(t, api.OK, "group()", "group().by()", "group().by('a').by(id())", "group().by().by('a').group().by().by()", "groupCount()", "groupCount().by()", "groupCount().by(id())", "groupCount().by().groupCount().by('a')", "dedup()", "dedup().by()", "dedup().by('a')", "dedup().by(id())", "dedup().by().dedup()", "group().dedup().by().groupCount().by().order().by().by().by()")
	pair(t, api.ErrPlace, "group().by().by().by()", "group().by('a').by('a').by(id())", "groupCount().by().by()", "dedup().by().by()", "dedup().by('a').by('b')", "group().fold().by()", "groupCount().count().by()", "dedup().id().by()", "group().dedup().by().by()", "group().by().groupCount().by().by()")
	// A word of these is told only of a by that may stand there.
	pair(t, api.ErrArgs, "group().by(asc)", "group().by(desc)", "group().by('a',asc)", "group().by(id(),desc)", "group().by().by(asc)", "group().by(asc).by().by()", "groupCount().by(asc)", "groupCount().by('a',desc)", "dedup().by(desc)", "dedup().by(id(),asc)")
	pair(t, api.ErrPlace, "group().by().by().by(asc)", "groupCount().by().by(desc)", "dedup().by().by('a',asc)", "count().by(asc)", "repeat(out()).by(asc)", "repeat(out()).emit().by(desc)", "addE('a').to(V()).by(asc)")
}

func TestRepeat(t *testing.T) {
	pair(t, api.OK,
		"repeat(out()).times(0)", "repeat(out()).until(id())", "repeat(out()).emit()", "repeat(out()).times(1).until(id())", "repeat(out()).until(id()).times(1)", "repeat(out()).emit().times(1)", "repeat(out()).until(id()).emit()",
		"repeat(out()).times(1).until(id()).emit()", "repeat(out()).emit().until(id()).times(1)", "repeat(out()).until(id()).emit().times(1).id()", "repeat(out()).emit().repeat(out()).emit()", "repeat(repeat(out()).emit()).emit()", "repeat(out()).until(repeat(in()).times(2)).times(1)",
	)
	pair(t, api.ErrPlace,
		"repeat(out())", "repeat(out()).id()", "repeat(out()).id().emit()", "repeat(out()).repeat(out()).emit()", "repeat(repeat(out())).emit()", "repeat(out()).until(repeat(out()))",
		"repeat(out()).times(1).times(1)", "repeat(out()).until(id()).until(id())", "repeat(out()).emit().emit()", "repeat(out()).times(1).emit().times(2)", "repeat(out()).times(1).until(id()).emit().until(id())", "repeat(out()).emit().until(id()).times(1).emit()",
		"repeat(out()).emit().by()", "repeat(out()).emit().to(id())", "repeat(out()).times(1).id().emit()", "repeat(out()).by()", "repeat(out()).to(id())", "repeat(out()).from(id())",
		"times(1)", "until(id())", "emit()", "id().times(1)", "order().until(id())", "group().emit()", "order().by().times(1)", "group().by().until(id())", "dedup().by().emit()", "emit().repeat(out())", "addE('a').to(id()).emit()",
	)
}

func TestAddE(t *testing.T) {
	pair(t, api.OK, "addE('a').to(id())", "addE('a').from(id())", "addE('a').to(id()).from(id())", "addE('a').from(id()).to(id()).id()", "addE('a').to(id()).addE('a').to(id())", "addE('a').to(addE('b').from(id()))", "addE('a').to(id()).property('a',1)")
	pair(t, api.ErrPlace,
		"addE('a')", "addE('a').id()", "addE('a').property('a',1).to(id())", "addE('a').addE('a').to(id())", "addE('a').by()", "addE('a').emit()", "addE('a').times(1)", "addE('a').until(id())", "addE('a').to(addE('a'))",
		"addE('a').to(id()).to(id())", "addE('a').from(id()).from(id())", "addE('a').to(id()).from(id()).to(id())", "addE('a').from(id()).to(id()).from(id())", "addE('a').to(id()).by()", "addE('a').to(id()).id().from(id())",
		"to(id())", "from(id())", "id().to(id())", "order().from(id())", "order().by().to(id())", "repeat(out()).emit().to(id())",
	)
}

// Of one step's errors the one that is named first.
func TestOfOneStep(t *testing.T) {
	are(t, api.ErrStep, "g.x(1)", "g.V().x(1)", "g.x(by())")
	are(t, api.ErrArgs, "g.out(1)", "g.by(1)", "g.repeat(1)", "g.addE()", "g.V().by(1)", "g.V().times(-1)", "g.V().repeat()", "g.V().repeat(out(),x())", "g.V().addE(1)", "g.V().addE(a)", "g.V().group().by().by().by(1)", "g.V().order().by(asc,x())", "g.V().out(x())", "g.V().choose(x(),out())")
	are(t, api.ErrPlace, "g.where(x())", "g.repeat(out(1))", "g.union(by(),x())", "g.V().repeat(x())", "g.V().repeat(out(1))", "g.V().repeat(x()).id()", "g.V().until(x())", "g.V().to(out(1))", "g.V().dedup().by().by(x())", "g.V().group().by().by().by(x(),asc)")
	are(t, api.ErrArgs, "g.V().group().by(x(),asc)", "g.V().dedup().by(by(),desc)")
	// Any step that belongs to one is enough for a repeat's own error, so its body's is told.
	are(t, api.ErrStep, "g.V().repeat(x()).by()", "g.V().repeat(x()).to(1)", "g.V().repeat(x()).emit(1)", "g.V().repeat(x()).emit()")
	are(t, api.ErrArgs, "g.V().repeat(out()).by(1)", "g.V().repeat(out()).from(1)", "g.V().repeat(out()).times(x)", "g.V().addE('a').to(1)")
}

// Of several steps the first one in the text, traversals behind the step that has them and ahead of the next one.
func TestFirstStep(t *testing.T) {
	are(t, api.ErrStep, "g.x().out(1).by()", "g.V().x().out(1)", "g.V().where(x().out(1))", "g.V().where(out().x()).out(1)", "g.V().where(where(where(x()))).by()", "g.V().union(id(),x(),out(1)).by()", "g.V().repeat(x()).emit().emit()", "g.V().order().by(x()).by(1)", "g.V().addE('a').to(x()).to(id())")
	are(t, api.ErrArgs, "g.V(a).x()", "g.V().out(1).x()", "g.V().where(out(1).x())", "g.V().where(id()).out(1).where(x())", "g.V().union(out(1),x(),by())", "g.V().repeat(out(1)).emit().x()", "g.V().where(out(1)).x()", "g.V().group().by(desc).x()", "g.V().group().by(desc).by().by()")
	are(t, api.ErrPlace, "g.out().x()", "g.id().out(1)", "g.V().by().x()", "g.V().where(by().x())", "g.V().repeat(out()).x()", "g.V().addE('a').x()", "g.V().union(id(),by(),x())", "g.V().dedup().by().by().out(1)", "g.V().where(out().repeat(out())).x()", "g.V().repeat(by()).emit(1)", "g.V().repeat(out()).emit().emit().x()")
}

// What stands deep is told; so is what is deeper than a text may be.
func TestDeep(t *testing.T) {
	const levels = 1 << 16
	for _, want := range []struct {
		step api.Step
		e    api.Errno
	}{{step("out"), api.OK}, {step("x"), api.ErrStep}, {step("out", arg('1')), api.ErrArgs}, {step("by"), api.ErrPlace}} {
		s := want.step
		for range levels {
			s = step("not", trav(s))
		}
		if got := checkOf(step("V"), s, step("id")); got != want.e {
			t.Errorf("%s: %d; must be %d", want.step.Name, got, want.e)
		}
	}
}

// As many steps as may be, and many more.
func TestMany(t *testing.T) {
	l := []api.Step{step("V")}
	for range 100000 {
		l = append(l, step("order"), step("by", arg('D')))
	}
	is(t, api.OK, l...)
	is(t, api.ErrStep, append(l, step("x"))...)
	is(t, api.ErrPlace, append(l, step("order"), step("emit"))...)
	for range 100000 {
		l = append(l, step("by"))
	}
	is(t, api.ErrPlace, l...)
}

// What is handed in is not changed, and nothing is kept of it.
func TestUnchanged(t *testing.T) {
	s := "g.V(1).has('a',gt(1)).repeat(out('a').where(id())).times(2).order().by('a',desc).group().by(asc)"
	l, m := steps(t, s), steps(t, s)
	is(t, api.ErrArgs, l...)
	is(t, api.ErrArgs, l...)
	if told(l) != told(m) {
		t.Error("steps that were asked for are others")
	}
	is(t, api.OK, l[:7]...)
	is(t, api.ErrPlace, l[:3]...)
	is(t, api.ErrArgs, l...)
}
