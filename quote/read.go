package quote

import (
	"offside/api"
	"offside/glyph"
)

// The forms of pieces.
const (
	character = iota
	empty     // `\&`
	gap
)

// A piece is what a literal has between its quotes: the bytes from begin to end, and, if it is a character, its number.
type piece struct {
	form, number int
	begin, end   int
}

// A fault is what the reading of a literal panics with: the byte of an error, and the error.
type fault struct {
	at int
	e  api.Errno
}

// readWhole visits the pieces of the literal s, or returns an error if s is none; by then it may have visited some.
func readWhole(s string, visit func(piece)) api.Errno {
	if !quoteAt(s, 0) {
		return api.ErrQuote
	}
	_, end, e := read(s, 0, visit)
	if e == api.OK && end < len(s) {
		return api.ErrQuote
	}
	return e
}

// read visits the pieces of the literal whose quote stands at the byte at, and returns what Scan does.
func read(s string, at int, visit func(piece)) (kind, end int, e api.Errno) {
	defer func() {
		thrown := recover()
		if wrong, ok := thrown.(fault); ok {
			kind, end, e = api.NoKind, wrong.at, wrong.e
		} else if thrown != nil {
			panic(thrown) // no error of a literal: to take it for one would hide it
		}
	}()
	if stands(s, at, '\'') {
		return api.Char, charEnd(s, at+1, visit), api.OK
	}
	return api.Text, textEnd(s, at+1, visit), api.OK
}

// charEnd visits the character at the byte at, and returns the position behind the quote that follows it.
func charEnd(s string, at int, visit func(piece)) int {
	if stands(s, at, '\'') {
		panic(fault{at, api.ErrQuote})
	}
	p := pieceAt(s, at)
	if p.form != character {
		panic(fault{at, api.ErrEscape})
	}
	if !stands(s, p.end, '\'') {
		panic(fault{p.end, api.ErrQuote})
	}
	visit(p)
	return p.end + 1
}

// textEnd visits the pieces from the byte at on, and returns the position behind the quote that follows them.
func textEnd(s string, at int, visit func(piece)) int {
	for !stands(s, at, '"') {
		p := pieceAt(s, at)
		visit(p)
		at = p.end
	}
	return at + 1
}

// pieceAt returns the piece that begins at the byte at. Quotes are up to the caller, who knows which one ends the literal; the end of the text is read as the rune 0, which is of no class.
func pieceAt(s string, at int) piece {
	c, size := glyph.Next(s, at)
	if c == '\\' {
		return slashed(s, at)
	}
	if !mayStand(c, size) {
		panic(fault{at, api.ErrQuote})
	}
	return piece{form: character, number: int(c), begin: at, end: at + size}
}

// slashed returns the piece that begins with the `\` at the byte at.
func slashed(s string, at int) piece {
	if stands(s, at+1, '&') {
		return piece{form: empty, begin: at, end: at + len(nothing)}
	}
	if end := gapEnd(s, at); end > at {
		return piece{form: gap, begin: at, end: end}
	}
	number, size := escape(s[at+1:])
	if size == 0 || number > greatest {
		panic(fault{at, api.ErrEscape})
	}
	return piece{form: character, number: number, begin: at, end: at + 1 + size}
}

// gapEnd returns the end of the gap that begins with the `\` at the byte at, or at if none does.
func gapEnd(s string, at int) int {
	end := glyph.Run(s, at+1, api.Blank)
	if end == at+1 || !stands(s, end, '\\') {
		return at
	}
	return end + 1
}

// mayStand reports whether a rune of that many bytes is written as itself; the escapes' `\` and the quotes are not asked here.
func mayStand(c rune, size int) bool {
	if c == broken && size == 1 {
		return false
	}
	switch glyph.Class(c) {
	case api.NoClass:
		return false
	case api.Blank:
		return c == ' '
	}
	return true
}

func quoteAt(s string, at int) bool {
	return stands(s, at, '"') || stands(s, at, '\'')
}

func stands(s string, at int, b byte) bool {
	return at >= 0 && at < len(s) && s[at] == b
}
