package asre

import (
	"strings"

	"whirligig/api"
	"whirligig/aspath"
)

const (
	longest = 64 // bytes of an expression's text
	deepest = 8  // choices in one another, the expression's own one being the first
)

// reader takes an expression from a text's beginning on. Behind its first fault nothing is left to take.
type reader struct {
	rest string
	deep int // choices that are begun and not ended
	e    api.Errno
}

// Parse reads an expression.
func Parse(s string) (*Expr, api.Errno) {
	if len(s) > longest {
		return nil, api.ErrLong
	}
	r := &reader{rest: s}
	x := &Expr{}
	x.first = r.take('^')
	x.whole = r.choice()
	x.last = r.take('$')
	r.end()
	if r.e != api.OK {
		return nil, r.e
	}
	return x, api.OK
}

// fail keeps the first fault.
func (r *reader) fail(e api.Errno) {
	if r.e == api.OK {
		r.e = e
	}
	r.rest = ""
}

// skip leaves blanks out.
func (r *reader) skip() { r.rest = strings.TrimLeft(r.rest, " ") }

// end fails, if something is left.
func (r *reader) end() {
	r.skip()
	if r.rest != "" {
		r.fail(api.ErrForm)
	}
}

// take takes a mark, if it is the next one.
func (r *reader) take(mark byte) bool {
	r.skip()
	if r.rest == "" || r.rest[0] != mark {
		return false
	}
	r.rest = r.rest[1:]
	return true
}

// digits takes digits, as many as stand side by side.
func (r *reader) digits() string {
	r.skip()
	behind := strings.TrimLeft(r.rest, "0123456789")
	digits := r.rest[:len(r.rest)-len(behind)]
	r.rest = behind
	return digits
}

// choice takes rows with `|` between.
func (r *reader) choice() node {
	r.deep++
	if r.deep > deepest {
		r.fail(api.ErrLong)
	}
	n := node{kind: choice, under: []node{r.row()}}
	for r.take('|') {
		n.under = append(n.under, r.row())
	}
	r.deep--
	return n
}

// row takes as many items as there are.
func (r *reader) row() node {
	n := node{kind: row}
	for {
		atom, is := r.atom()
		if !is {
			return n
		}
		n.under = append(n.under, r.item(atom))
	}
}

// item takes what may stand behind an atom.
func (r *reader) item(atom node) node {
	switch {
	case r.take('*'):
		return node{kind: star, under: []node{atom}}
	case r.take('+'):
		return node{kind: plus, under: []node{atom}}
	case r.take('?'):
		return node{kind: maybe, under: []node{atom}}
	}
	return atom
}

// atom takes an atom, if there is one.
func (r *reader) atom() (node, bool) {
	switch {
	case r.take('.'):
		return node{kind: dot}, true
	case r.take('['):
		return r.set(), true
	case r.take('('):
		return r.inner(), true
	}
	digits := r.digits()
	if digits == "" {
		return node{}, false
	}
	as := r.number(digits)
	return node{kind: number, parts: []part{{from: as, to: as}}}, true
}

// inner takes a choice and the bracket behind it.
func (r *reader) inner() node {
	n := r.choice()
	if !r.take(')') {
		r.fail(api.ErrForm)
	}
	return n
}

// set takes a set's parts and the bracket behind them.
func (r *reader) set() node {
	n := node{kind: set}
	for r.e == api.OK {
		n.parts = append(n.parts, r.part())
		if r.take(']') {
			break
		}
	}
	return n
}

// part takes a number, or two with `-` between.
func (r *reader) part() part {
	from := r.number(r.digits())
	if !r.take('-') {
		return part{from: from, to: from}
	}
	to := r.number(r.digits())
	if to < from {
		r.fail(api.ErrRange)
	}
	return part{from: from, to: to, two: true}
}

// number is the number of digits that were taken; it fails, if they are none of an AS.
func (r *reader) number(digits string) int {
	p, e := aspath.Parse(digits)
	if e == api.OK && len(p) == 0 {
		e = api.ErrForm
	}
	if e != api.OK {
		r.fail(e)
		return 0
	}
	return p[0]
}
