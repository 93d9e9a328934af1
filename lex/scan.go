package lex

import (
	"strings"

	"whirligig/api"
)

const (
	maxWord = 32 // bytes of a word
	maxText = 64 // bytes of a text in quotes
)

// Scan is a text's tokens.
func Scan(s string) ([]Token, api.Pos, api.Errno) {
	if len(s) > api.MaxText {
		return nil, api.Pos{Line: 1, Col: 1}, api.ErrLong
	}
	var l []Token
	line, start, at := 1, 0, 0 // start is where the line begins
	p := piece{kind: Mark}
scan:
	for at < len(s) {
		ahead := p.kind
		p = piece{kind: Mark, size: 1} // blanks and remarks part tokens as marks do
		switch s[at] {
		case ' ', '\t', '\r':
		case '\n':
			line, start = line+1, at+1
		case '#':
			p.size = run(s[at:], inLine)
		default:
			p = begin(s[at:], ahead)
			if p.e != api.OK {
				break scan
			}
			// A copy, for what is told shares no memory with what was handed in.
			l = append(l, Token{Kind: p.kind, S: strings.Clone(p.s), At: api.Pos{Line: line, Col: at - start + 1}})
		}
		at += p.size
	}
	if p.e != api.OK {
		return nil, Place(s, at+p.fault), p.e
	}
	return l, api.Pos{}, api.OK
}

// piece is a part of a text, or a fault so many bytes behind where a part should begin.
type piece struct {
	kind  Kind
	s     string // a token's text
	size  int    // the part's bytes
	fault int
	e     api.Errno
}

// begin is the token that a text begins with, which isn't empty and stands right behind something of the kind ahead.
func begin(s string, ahead Kind) piece {
	switch c := s[0]; {
	case isMark(c):
		return piece{kind: Mark, s: s[:1], size: 1}
	case c == '"' && ahead != Word:
		return quoted(s)
	case inWord(c) && ahead != Text:
		return word(s)
	}
	return piece{e: api.ErrForm}
}

// word is the word that a text begins with.
func word(s string) piece {
	n := run(s, inWord)
	if n > maxWord {
		return piece{e: api.ErrLong}
	}
	return piece{kind: Word, s: s[:n], size: n}
}

// quoted is the text in quotes that a text begins with. Faults at its first quote come ahead of those of its bytes.
func quoted(s string) piece {
	n := run(s[1:], inQuotes)
	in, behind := s[1:1+n], s[1+n:]
	if behind == "" || behind[0] != '"' {
		return piece{e: api.ErrEnd}
	}
	if n > maxText {
		return piece{e: api.ErrLong}
	}
	if right := run(in, isPlain); right < n {
		return piece{fault: 1 + right, e: api.ErrForm}
	}
	return piece{kind: Text, s: in, size: n + 2}
}

// run is how many bytes a text begins with that are all such.
func run(s string, such func(byte) bool) int {
	n := 0
	for n < len(s) && such(s[n]) {
		n++
	}
	return n
}

// inLine tells whether a byte doesn't end its line.
func inLine(c byte) bool { return c != '\n' }

// inQuotes tells whether a text goes on by a byte, be it one that may stand there or not.
func inQuotes(c byte) bool { return c != '"' && inLine(c) }

// isPlain tells whether a byte may stand in a text in quotes.
func isPlain(c byte) bool { return c >= 32 && c <= 126 && c != '"' }

// isMark tells whether a byte is a mark.
func isMark(c byte) bool { return c == '{' || c == '}' || c == ';' }

// inWord tells whether a byte may stand in a word.
func inWord(c byte) bool {
	switch c {
	case '.', ':', '/', '-', '_':
		return true
	}
	return c >= 'a' && c <= 'z' || c >= '0' && c <= '9'
}
