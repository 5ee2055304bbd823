package parse

import (
	"offshoot/api"
	"offshoot/val"
)

// valueAhead tells whether a value begins with the next word.
func (p *parser) valueAhead() bool {
	switch w := p.word(); w.Kind {
	case api.WordInt, api.WordFloat, api.WordStr:
		return true
	case api.WordName:
		return w.S == "true" || w.S == "false" || w.S == "null"
	}
	return isSign(p.word(), "[")
}

// value is the value that is ahead.
func (p *parser) value() api.Value {
	w := p.word()
	if w.Kind == api.WordSign {
		return p.list()
	}
	p.next++
	switch w.Kind {
	case api.WordInt:
		return val.Int(w.N)
	case api.WordFloat:
		return val.Float(w.F)
	case api.WordStr:
		return val.Text(w.S)
	}
	if w.S == "null" {
		return val.None()
	}
	return val.Yes(w.S == "true")
}

func (p *parser) list() api.Value {
	p.down()
	defer p.up()
	p.next++
	return val.List(several(p, "]", p.valueAhead, p.value)...)
}
