package parse

import (
	"offshoot/api"
	"offshoot/val"
)

const (
	start    = "g"  // ahead of a text's steps
	nameless = "__" // ahead of those of a traversal
)

func (p *parser) text() []api.Step {
	p.must(isName(p.word(), start))
	p.next++
	p.must(p.take("."))
	l := p.chain()
	p.must(p.word().Kind == api.WordEnd)
	return l
}

// chain is steps with points between them.
func (p *parser) chain() []api.Step {
	l := []api.Step{p.step()}
	for p.take(".") {
		l = append(l, p.step())
	}
	return l
}

func (p *parser) step() api.Step {
	w := p.word()
	p.must(w.Kind == api.WordName)
	if p.steps == api.MostSteps {
		fail(w, api.ErrMost)
	}
	p.steps++
	p.next++
	p.must(p.take("("))
	return api.Step{Name: w.S, Args: several(p, ")", p.argAhead, p.arg)}
}

// argAhead tells whether an argument may begin with the next word.
func (p *parser) argAhead() bool { return p.word().Kind == api.WordName || p.valueAhead() }

func (p *parser) arg() api.Arg {
	w := p.word()
	switch {
	case p.valueAhead():
		return api.Arg{Kind: api.ArgValue, V: p.value()}
	case p.predAhead() && p.behind("("):
		return api.Arg{Kind: api.ArgPred, P: p.pred()}
	case w.S != nameless && !p.behind("("):
		p.next++
		return api.Arg{Kind: api.ArgWord, V: val.Text(w.S)}
	}
	return api.Arg{Kind: api.ArgTrav, T: p.traversal()}
}

func (p *parser) traversal() []api.Step {
	p.down()
	defer p.up()
	if p.word().S == nameless && p.behind(".") {
		p.next += 2
	}
	return p.chain()
}
