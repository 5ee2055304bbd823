package parse

import (
	"offshoot/api"
)

const anyNumber = -1 // of a predicate's values

// Preds is the names of predicates, and how many values they have: -1: any number.
func Preds(name string) (int, bool) {
	switch name {
	case "eq", "neq", "lt", "lte", "gt", "gte", "startingWith", "endingWith", "containing":
		return 1, true
	case "between", "inside", "outside":
		return 2, true
	case "within", "without":
		return anyNumber, true
	}
	return 0, false
}

func (p *parser) predAhead() bool {
	_, ok := Preds(p.word().S)
	return ok && p.word().Kind == api.WordName
}

// pred is a predicate with all that is joined to it, each of which stands around those ahead of it: so none is left until all end.
func (p *parser) pred() api.Pred {
	out := p.plain()
	for p.take(".") {
		w := p.word()
		p.must(isName(w, "and") || isName(w, "or") || isName(w, "negate"))
		p.down()
		defer p.up()
		p.next++
		p.must(p.take("("))
		if w.S == "negate" {
			out = api.Pred{Op: "not", Kids: []api.Pred{out}}
		} else {
			p.must(p.predAhead())
			out = api.Pred{Op: w.S, Kids: []api.Pred{out, p.pred()}}
		}
		p.must(p.take(")"))
	}
	return out
}

// plain is a predicate with its values alone.
func (p *parser) plain() api.Pred {
	name := p.word()
	p.next++
	p.must(p.take("("))
	most, _ := Preds(name.S)
	n := 0
	l := several(p, ")", p.valueAhead, func() api.Value {
		v := p.inner()
		// Told of the name, so ahead of all that is wrong further on.
		if n++; n > most && most != anyNumber {
			fail(name, api.ErrParse)
		}
		return v
	})
	if n < most {
		fail(name, api.ErrParse)
	}
	return api.Pred{Op: name.S, L: l}
}

// inner is a value of a predicate.
func (p *parser) inner() api.Value {
	p.down()
	defer p.up()
	return p.value()
}
