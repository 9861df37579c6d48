// Package lex is layer 1: it cuts the text of a grammar into tokens.
package lex

import (
	"strings"

	"franking/api"
)

// Lex tells the tokens of a grammar's text, or its first error and that error's place.
func Lex(s string) ([]api.Tok, int, api.Errno) {
	if len(s) > api.MaxGrammar {
		return nil, api.MaxGrammar, api.ErrLong
	}
	l := lexer{starts: starts()}
	for from := 0; from < len(s); {
		line, next := cutLine(s, from)
		if at, err := l.takeLine(line, from); err != api.OK {
			return nil, at, err
		}
		from = next
	}
	l.endRule(len(s))
	return l.toks, 0, api.OK
}

// lexer is what was read so far, and whether a rule is open.
type lexer struct {
	starts []start
	toks   []api.Tok
	open   bool
}

// cutLine answers the line that begins at from, without its end, and where the next one begins.
func cutLine(s string, from int) (string, int) {
	many := strings.IndexByte(s[from:], '\n')
	if many < 0 {
		// A byte 13 is part of a line's end only ahead of a byte 10: here it stays.
		return s[from:], len(s)
	}
	return strings.TrimSuffix(s[from:from+many], "\r"), from + many + 1
}

// takeLine reads a line that begins at the place from; it answers the place of an error.
func (l *lexer) takeLine(line string, from int) (int, api.Errno) {
	switch {
	case isIdle(line):
		return 0, api.OK
	case isLetter(line[0]):
		l.endRule(from)
		l.open = true
	case isBlank(line[0]) && l.open:
	default:
		return from, api.ErrLine
	}
	return l.takeTokens(line, from)
}

// isIdle tells whether a line has nothing but blanks and a remark.
func isIdle(line string) bool {
	blanks := span(line, isBlank)
	return blanks == len(line) || line[blanks] == ';'
}

// endRule puts down the end of the open rule, if there is one.
func (l *lexer) endRule(at int) {
	if l.open {
		l.toks = append(l.toks, api.Tok{Kind: api.TokEnd, At: at})
	}
	l.open = false
}

// takeTokens reads a line's tokens; it answers the place of an error.
func (l *lexer) takeTokens(line string, from int) (int, api.Errno) {
	for at := 0; at < len(line); {
		p := l.readPiece(line[at:])
		if p.err != api.OK {
			return from + at + p.bad, p.err
		}
		if p.tok.Kind != 0 {
			p.tok.At = from + at
			l.toks = append(l.toks, p.tok)
		}
		at += p.size
	}
	return 0, api.OK
}

// readPiece reads what stands first in rest, by the first row that fits it.
func (l *lexer) readPiece(rest string) piece {
	for _, row := range l.starts {
		if row.begins(rest) {
			return row.read(rest)
		}
	}
	// The last row fits everything; should it ever not, the text is still left with an error.
	return fault(0, api.ErrByte)
}
