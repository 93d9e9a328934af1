package cfg

import (
	"slices"

	"whirligig/addr"
	"whirligig/api"
	"whirligig/asre"
	"whirligig/comm"
	"whirligig/lex"
)

// parser takes a text's tokens one after the other. It keeps its first fault; behind that there are no more tokens for it, and what is read is thrown away.
type parser struct {
	rest []lex.Token
	end  api.Pos   // the place behind the text
	at   api.Pos   // the first fault's place
	e    api.Errno // the first fault
}

// fault keeps what is wrong with a token, if anything is, and nothing was ahead of it.
func (p *parser) fault(t lex.Token, e api.Errno) {
	if p.e == api.OK && e != api.OK {
		p.at, p.e, p.rest = t.At, e, nil
	}
}

// next takes a token; where there is none it is an empty word, which nothing can go on by.
func (p *parser) next() lex.Token {
	if len(p.rest) == 0 {
		t := lex.Token{At: p.end}
		p.fault(t, api.ErrEnd)
		return t
	}
	t := p.rest[0]
	p.rest = p.rest[1:]
	return t
}

// word is a word's text. It is empty of marks and of texts in quotes: what these have within is no word.
func word(t lex.Token) string {
	if t.Kind != lex.Word {
		return ""
	}
	return t.S
}

// isMark tells whether a token is such a mark.
func isMark(t lex.Token, mark string) bool { return t.Kind == lex.Mark && t.S == mark }

// mark takes a mark that must be there.
func (p *parser) mark(mark string) {
	if t := p.next(); !isMark(t, mark) {
		p.fault(t, api.ErrForm)
	}
}

// ends tells whether the mark behind a row of things is next.
func (p *parser) ends() bool { return len(p.rest) > 0 && isMark(p.rest[0], ";") }

// keyword takes a word that must be there.
func (p *parser) keyword(s string) {
	if t := p.next(); word(t) != s {
		p.fault(t, api.ErrForm)
	}
}

// option takes a word that may be left out, and tells whether it was there.
func (p *parser) option(s string) bool {
	if len(p.rest) == 0 || word(p.rest[0]) != s {
		return false
	}
	p.next()
	return true
}

// block takes what stands in braces, each part by its first token, and tells the mark that ends it.
func (p *parser) block(part func(first lex.Token)) lex.Token {
	p.mark("{")
	for {
		t := p.next()
		if p.e != api.OK || isMark(t, "}") {
			return t
		}
		part(t)
	}
}

// several takes one thing or more, up to the mark that ends them.
func several[T any](p *parser, most int, thing func(lex.Token) T) []T {
	var l []T
	for len(l) == 0 || p.e == api.OK && !p.ends() {
		t := p.next()
		one := thing(t)
		p.room(t, len(l), most) // behind the thing's own faults, which are named first
		l = append(l, one)
	}
	return l
}

// room asks that there be fewer than the most so far, for a token begins one more.
func (p *parser) room(t lex.Token, many, most int) {
	if many >= most {
		p.fault(t, api.ErrLong)
	}
}

// once is a check that refuses a token with a text that it was asked of already.
func (p *parser) once() func(lex.Token) {
	var told []string
	return func(t lex.Token) {
		if slices.Contains(told, t.S) {
			p.fault(t, api.ErrTwice)
		}
		told = append(told, t.S)
	}
}

// name is a token's name.
func (p *parser) name(t lex.Token) string {
	p.fault(t, nameFault(word(t)))
	return t.S
}

// newName takes a name that must be unlike those ahead.
func (p *parser) newName(once func(lex.Token)) string {
	t := p.next()
	name := p.name(t)
	once(t)
	return name
}

// number is a token's number.
func (p *parser) number(t lex.Token, from, to int) int {
	n, e := Number(word(t), from, to)
	p.fault(t, e)
	return n
}

// as is a token's AS number.
func (p *parser) as(t lex.Token) int { return p.number(t, 1, api.MaxAS) }

// prefix is a token's prefix.
func (p *parser) prefix(t lex.Token) api.Prefix {
	x, e := addr.Parse(word(t))
	p.fault(t, e)
	return x
}

// comm is a token's community.
func (p *parser) comm(t lex.Token) api.Comm {
	c, e := comm.Parse(word(t))
	p.fault(t, e)
	return c
}

// path is a token's expression, as it is told.
func (p *parser) path(t lex.Token) string {
	if t.Kind != lex.Text {
		p.fault(t, api.ErrForm)
	}
	_, e := asre.Parse(t.S)
	p.fault(t, e)
	return t.S
}
