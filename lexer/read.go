package lexer

import (
	"offside/api"
	"offside/glyph"
	"offside/note"
	"offside/number"
	"offside/place"
	"offside/quote"
	"offside/word"
)

// A lexer reads a text from its beginning on; the line and the column are those of the byte at.
type lexer struct {
	s         string
	at        int
	line, col int
	toks      []api.Token
	notes     []api.Note
	gap       int // how many of the tokens count for the gap of a comment
	last      int // the line in which the last token ends, or 0 if there is none
}

// read reads the whole text, or up to the first error, whose position it returns.
func (l *lexer) read() (at int, e api.Errno) {
	l.skip()
	for l.at < len(l.s) {
		if at, e = l.next(); e != api.OK {
			return at, e
		}
		l.skip()
	}
	return 0, api.OK
}

// skip passes the blanks at the byte at.
func (l *lexer) skip() {
	l.pass(glyph.Run(l.s, l.at, api.Blank))
}

// next reads the comment or the token at the byte at.
func (l *lexer) next() (at int, e api.Errno) {
	end, e := note.Scan(l.s, l.at)
	if e != api.OK {
		return l.at, e
	}
	if end > 0 {
		l.comment(end)
		return 0, api.OK
	}
	kind, end, e := l.lexeme()
	if e != api.OK {
		return end, e
	}
	l.token(kind, end)
	return 0, api.OK
}

// lexeme returns the kind and the end of the lexeme at the byte at, or NoKind, the position of the error, and the error.
func (l *lexer) lexeme() (kind, end int, e api.Errno) {
	if kind, end = number.Scan(l.s, l.at); kind != api.NoKind {
		return kind, end, api.OK
	}
	if kind, end, e = quote.Scan(l.s, l.at); kind != api.NoKind || e != api.OK {
		return kind, end, e
	}
	if kind, end = word.Scan(l.s, l.at); kind != api.NoKind {
		return kind, end, api.OK
	}
	return api.NoKind, l.at, api.ErrLex
}

// token takes what ends there for a token.
func (l *lexer) token(kind, end int) {
	text := l.s[l.at:end]
	l.toks = append(l.toks, api.Token{Kind: kind, Text: text, Line: l.line, Col: l.col})
	if counts(text) {
		l.gap++
	}
	l.pass(end)
	l.last = l.line
}

// comment takes what ends there for a comment.
func (l *lexer) comment(end int) {
	n := api.Note{Text: l.s[l.at:end], Gap: l.gap, Where: api.Alone, Line: l.line, Col: l.col}
	l.pass(end)
	// A comment that ends in the line in which the last token ends joins: whatever stands between the two is Inline.
	joins := l.line == l.last
	l.skip() // what follows tells whether such a comment is Inline itself
	switch {
	case joins && l.line == n.Line && l.at < len(l.s):
		n.Where = api.Inline
	case joins:
		n.Where = api.Behind
	}
	l.notes = append(l.notes, n)
}

// counts reports whether a token with that text counts for the gaps of the comments that follow it.
func counts(text string) bool {
	switch text {
	case "{", "}", ";":
		return false
	}
	return true
}

// pass moves on to the byte end. No newline of two bytes is cut in two by that, since what is passed ends with all blanks that stand there, or with no blank.
func (l *lexer) pass(end int) {
	piece := l.s[l.at:end]
	lines, _, _ := place.Of(piece, len(piece))
	l.col, _ = place.Width(piece, l.col)
	l.line += lines - 1
	l.at = end
}
