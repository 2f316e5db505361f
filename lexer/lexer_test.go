package lexer

import (
	"slices"
	"strings"
	"testing"
	"unicode/utf8"

	"offside/api"
	"offside/note"
	"offside/number"
	"offside/place"
	"offside/quote"
	"offside/word"
)

// atoms are what texts are put together of: what every lexeme and comment begins and ends with, blanks and newlines of every kind, runes of every class, and bytes that encode none.
var atoms = []string{
	"x", "A", "A.", "_", "let", "e", "1", "0x", ".", "..", "+", ":", "|", "-", "--", "{", "}", ";", "(", ",", "`", "{-", "-}", "{--}", "{-\n-}", "#", "'", "'a'", "\"", "\"\\\n\\\"", "\\", "\\q", " ", "\t", "\n", "\r", "\r\n", "\f", "\v", "é", "Ω", "→", "中", "\u00a0", "\u2028", "\u0085", "\u00ad", "\ufffd", "\ufeff", "\x00", "\x7f", "\xff", "\xc3",
}

// The atoms of longer texts: where comments stand hangs on the first ones, the places of what stands behind blanks on the second ones.
var (
	whereAtoms = []string{"x", "{", "{--}", "{-\r\n-}", "--", "\n", "\"\\\n\\\""}
	blankAtoms = []string{"x", "{-\t-}", "\"\\\t\f \\\"", " ", "\t", "\n", "\r", "\f", "\v"}
	pointAtoms = []string{"A", "x", ".", "1", "e", "-", ":", "'", "where", " "}
)

func tok(kind int, text string, line, col int) api.Token {
	return api.Token{Kind: kind, Text: text, Line: line, Col: col}
}

func remark(text string, gap, where, line, col int) api.Note {
	return api.Note{Text: text, Gap: gap, Where: where, Line: line, Col: col}
}

// mixes calls f with every text of up to n of the atoms.
func mixes(atoms []string, n int, f func(s string)) {
	level := []string{""}
	for range n {
		var next []string
		for _, s := range level {
			f(s)
			for _, a := range atoms {
				next = append(next, s+a)
			}
		}
		level = next
	}
	for _, s := range level {
		f(s)
	}
}

// eachText calls f with the tables' texts, with every text of a few atoms, and with longer ones of fewer.
func eachText(f func(s string)) {
	for _, x := range known {
		f(x.s)
	}
	for _, x := range wrong {
		f(x.s)
	}
	mixes(atoms, 3, f)
	mixes(whereAtoms, 6, f)
	mixes(blankAtoms, 5, f)
	mixes(pointAtoms, 4, f)
}

// An item is a token or a comment of the second reading; a comment has the kind NoKind.
type item struct {
	kind, begin, end int
	first, col, last int
}

// wanted reads a text in a second way: first all that stands in it, then the places, each from the beginning of the text on, then where comments stand, word for word as the chapter tells it.
func wanted(t *testing.T, s string) (toks []api.Token, notes []api.Note, at int, e api.Errno) {
	items, at, e := wantedItems(t, s)
	if e != api.OK {
		return nil, nil, at, e
	}
	gap := 0
	for i, x := range items {
		text := s[x.begin:x.end]
		if x.kind == api.NoKind {
			notes = append(notes, remark(text, gap, wantedWhere(items, i), x.first, x.col))
			continue
		}
		toks = append(toks, tok(x.kind, text, x.first, x.col))
		if !slices.Contains([]string{"{", "}", ";"}, text) {
			gap++
		}
	}
	return toks, notes, 0, api.OK
}

func wantedItems(t *testing.T, s string) (items []item, at int, e api.Errno) {
	if at, e := wantedCheck(s); e != api.OK {
		return nil, at, e
	}
	for at < len(s) {
		if strings.IndexByte(" \t\n\v\f\r", s[at]) >= 0 {
			at++
			continue
		}
		x := item{begin: at}
		if x.end, e = note.Scan(s, at); e != api.OK {
			return nil, at, e
		}
		if x.end == 0 {
			x.kind, x.end, e = wantedLexeme(t, s, at)
		}
		if e != api.OK {
			return nil, x.end, e
		}
		x.first, x.col, _ = place.Of(s, x.begin)
		x.last, _, _ = place.Of(s, x.end)
		items = append(items, x)
		at = x.end
	}
	return items, 0, api.OK
}

// wantedLexeme asks all three layers: no two of them may find a lexeme at one byte, else their order would count.
func wantedLexeme(t *testing.T, s string, at int) (kind, end int, e api.Errno) {
	found := 0
	k, n := number.Scan(s, at)
	if k != api.NoKind {
		kind, end, found = k, n, found+1
	}
	k, n, f := quote.Scan(s, at)
	if k != api.NoKind || f != api.OK {
		kind, end, e, found = k, n, f, found+1
	}
	k, n = word.Scan(s, at)
	if k != api.NoKind {
		kind, end, found = k, n, found+1
	}
	switch found {
	case 0:
		return api.NoKind, at, api.ErrLex
	case 1:
		return kind, end, e
	}
	t.Fatalf("G1: several lexemes begin at the byte %d of %q", at, s)
	return api.NoKind, 0, api.OK
}

func wantedCheck(s string) (int, api.Errno) {
	if len(s) > 16777216 {
		return 0, api.ErrLong
	}
	for i, c := range s {
		if c == utf8.RuneError && !strings.HasPrefix(s[i:], "\ufffd") {
			return i, api.ErrUtf
		}
	}
	at := strings.IndexFunc(s, isNothing)
	if at >= 0 {
		return at, api.ErrLex
	}
	return 0, api.OK
}

// isNothing tells the class by the numbers of the first chapter.
func isNothing(c rune) bool {
	return c <= 8 || c >= 14 && c <= 31 || c >= 127 && c <= 159 || c == 173
}

// wantedWhere tells where the comment that is the item i stands.
func wantedWhere(items []item, i int) int {
	x := items[i]
	if !wantedJoins(items, i) || x.first != x.last {
		return api.Alone
	}
	for _, y := range items[i+1:] {
		if y.first == x.first {
			return api.Inline
		}
	}
	return api.Behind
}

func wantedJoins(items []item, i int) bool {
	if i == 0 || items[i-1].last != items[i].first {
		return false
	}
	return items[i-1].kind != api.NoKind || wantedWhere(items, i-1) == api.Inline
}

// checkLex holds what Lex returns for s against what is wanted.
func checkLex(t *testing.T, s string, toks []api.Token, notes []api.Note, at int, e api.Errno) {
	t.Helper()
	gotToks, gotNotes, gotAt, gotE := Lex(s)
	if gotAt != at || gotE != e {
		t.Fatalf("G1: Lex(%.200q) returns %d and %d, not %d and %d", s, gotAt, gotE, at, e)
	}
	if !slices.Equal(gotToks, toks) {
		t.Fatalf("G1: Lex(%.200q) has the tokens %v, not %v", s, gotToks, toks)
	}
	if !slices.Equal(gotNotes, notes) {
		t.Fatalf("G1: Lex(%.200q) has the comments %v, not %v", s, gotNotes, notes)
	}
}
