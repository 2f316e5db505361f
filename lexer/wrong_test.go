package lexer

import (
	"strings"
	"testing"

	"offside/api"
)

// wrong are texts with an error, its position, and the error.
var wrong = []struct {
	s  string
	at int
	e  api.Errno
}{
	{"a\n  '", 5, api.ErrQuote},

	// bytes that are not UTF-8, wherever they stand
	{"\xff", 0, api.ErrUtf}, {"x\xff", 1, api.ErrUtf}, {"x \x80", 2, api.ErrUtf}, {"é\xc3", 2, api.ErrUtf}, {"\xc0\x80", 0, api.ErrUtf}, {"x\xed\xa0\x80", 1, api.ErrUtf}, {"x\xf4\x90\x80\x80", 1, api.ErrUtf}, {"\xef\xbf", 0, api.ErrUtf}, {"\xe2\x86", 0, api.ErrUtf},
	{"-- \xff", 3, api.ErrUtf}, {"{- \xff -}", 3, api.ErrUtf}, {"\"\xff\"", 1, api.ErrUtf}, {"'\xff'", 1, api.ErrUtf}, {" \xff ", 1, api.ErrUtf}, {"x\n\xff", 2, api.ErrUtf}, {"\xff\xfe", 0, api.ErrUtf},
	{"\ufffd\xff", 3, api.ErrUtf},

	// runes of the class NoClass, wherever they stand
	{"\x00", 0, api.ErrLex}, {"x\x00", 1, api.ErrLex}, {"x \x08", 2, api.ErrLex}, {"\x0e", 0, api.ErrLex}, {"x\x1b", 1, api.ErrLex}, {"\x7f", 0, api.ErrLex}, {"é\u0080", 2, api.ErrLex}, {"\u0085", 0, api.ErrLex}, {"\u009f", 0, api.ErrLex}, {"x\u00ady", 1, api.ErrLex},
	{"-- \x00", 3, api.ErrLex}, {"{- \x1f -}", 3, api.ErrLex}, {"\"a\x00\"", 2, api.ErrLex}, {"'\x7f'", 1, api.ErrLex}, {"\"\\\u0085\\\"", 2, api.ErrLex}, {"x\n\x00\x01", 2, api.ErrLex},

	// comments that do not end
	{"{-", 0, api.ErrNote}, {"{-}", 0, api.ErrNote}, {"{--", 0, api.ErrNote}, {" {- a", 1, api.ErrNote}, {"x{- a -", 1, api.ErrNote}, {"é {- a }", 3, api.ErrNote}, {"{-{--}", 0, api.ErrNote}, {"{-a-}{-b", 5, api.ErrNote}, {"{-# A #}", 0, api.ErrNote}, {"x\n\n{-\n\n", 3, api.ErrNote}, {"{--}{-{-}-}", 4, api.ErrNote}, {"{{-", 1, api.ErrNote},

	// literals
	{"'", 1, api.ErrQuote}, {"''", 1, api.ErrQuote}, {"'''", 1, api.ErrQuote}, {"'a", 2, api.ErrQuote}, {"'ab'", 2, api.ErrQuote}, {"'\n'", 1, api.ErrQuote}, {"'\t'", 1, api.ErrQuote}, {"'\\n", 3, api.ErrQuote}, {"'\\ab'", 3, api.ErrQuote}, {"'a\n'", 2, api.ErrQuote}, {"x 'é", 5, api.ErrQuote}, {"1'", 2, api.ErrQuote}, {"+'a", 3, api.ErrQuote},
	{"\"", 1, api.ErrQuote}, {"\"a", 2, api.ErrQuote}, {"\"a\n\"", 2, api.ErrQuote}, {"\"\t\"", 1, api.ErrQuote}, {"\"\\\"", 3, api.ErrQuote}, {"x\"", 2, api.ErrQuote}, {"\"a\"\"", 4, api.ErrQuote}, {"\"\\\n\\", 4, api.ErrQuote}, {"x\n y \"é\r\n\"", 8, api.ErrQuote},
	{"'\\q'", 1, api.ErrEscape}, {"'\\&'", 1, api.ErrEscape}, {"'\\ \\'", 1, api.ErrEscape}, {"'\\", 1, api.ErrEscape}, {"'\\x'", 1, api.ErrEscape}, {"'\\1114112'", 1, api.ErrEscape}, {"'\\^a'", 1, api.ErrEscape}, {"x '\\NU'", 3, api.ErrEscape},
	{"\"\\q\"", 1, api.ErrEscape}, {"\"\\", 1, api.ErrEscape}, {"\"a\\x110000\"", 2, api.ErrEscape}, {"\"\\o8\"", 1, api.ErrEscape}, {"\"\\\n\"", 1, api.ErrEscape}, {"\"\\ x\\\"", 1, api.ErrEscape}, {"\"\\\u00a0\\\"", 1, api.ErrEscape}, {"x \"é\\9999999999999999999999\"", 5, api.ErrEscape},

	// bytes where no lexeme begins
	{"中", 0, api.ErrLex}, {"x中", 1, api.ErrLex}, {"x 中", 2, api.ErrLex}, {"é中é", 2, api.ErrLex}, {"\u00a0", 0, api.ErrLex}, {"x\u00a0y", 1, api.ErrLex}, {"\u2028", 0, api.ErrLex}, {"\ufffd", 0, api.ErrLex}, {"\ufeffx", 0, api.ErrLex}, {"1Δ中", 3, api.ErrLex}, {"\u03a2", 0, api.ErrLex}, {"ά", 0, api.ErrLex}, {"+中", 1, api.ErrLex}, {"\"a\"中", 3, api.ErrLex}, {"'a'中", 3, api.ErrLex}, {"(中", 1, api.ErrLex}, {"{--}中", 4, api.ErrLex}, {"--\n中", 3, api.ErrLex}, {"M.中", 2, api.ErrLex}, {"𝔸", 0, api.ErrLex}, {"😀", 0, api.ErrLex}, {"１", 0, api.ErrLex},

	// several errors: which of them is the first
	{"\x00\xff", 1, api.ErrUtf}, {"{- \xff", 3, api.ErrUtf}, {"' \xff", 2, api.ErrUtf}, {"中\xff", 3, api.ErrUtf}, {"\"\\q\xff", 3, api.ErrUtf}, {"\xff\x00", 0, api.ErrUtf},
	{"{- \x00", 3, api.ErrLex}, {"a\x00'", 1, api.ErrLex}, {"'\x00", 1, api.ErrLex}, {"''\x00", 2, api.ErrLex}, {"中 \x00", 4, api.ErrLex}, {"\"\\q\" \x00", 5, api.ErrLex}, {"\x00{-", 0, api.ErrLex},
	{"{- '", 0, api.ErrNote}, {"{- 中", 0, api.ErrNote}, {"{- \"\\q", 0, api.ErrNote}, {"' {-", 2, api.ErrQuote}, {"中{-", 0, api.ErrLex}, {"\"\\q\" {-", 1, api.ErrEscape}, {"'' 中", 1, api.ErrQuote}, {"中''", 0, api.ErrLex}, {"\"\n\\q\"", 1, api.ErrQuote}, {"\"\\q\n\"", 1, api.ErrEscape}, {"-- ' {- 中\n'", 13, api.ErrQuote}, {"{- ' 中 -} 中", 12, api.ErrLex}, {"\"' {- 中\" {-", 11, api.ErrNote},
}

func TestLexWrong(t *testing.T) {
	for _, x := range wrong {
		checkLex(t, x.s, nil, nil, x.at, x.e)
	}
}

// faults are texts that have one error each; the rank tells which errors come first, wherever they stand.
var faults = []struct {
	s        string
	rank, at int
	e        api.Errno
}{
	{" \xff\n", 1, 1, api.ErrUtf},
	{" -- \xff\n", 1, 4, api.ErrUtf},
	{" 'a\xc3\n", 1, 3, api.ErrUtf},
	{" \x00\n", 2, 1, api.ErrLex},
	{" {- \u00ad -}\n", 2, 4, api.ErrLex},
	{" \"\x7f\n", 2, 2, api.ErrLex},
	{" {- a\n", 3, 1, api.ErrNote},
	{" 'ab'\n", 3, 3, api.ErrQuote},
	{" \"a\n", 3, 3, api.ErrQuote},
	{" '\\&'\n", 3, 2, api.ErrEscape},
	{" \"a\\q\"\n", 3, 3, api.ErrEscape},
	{" 中\n", 3, 1, api.ErrLex},
	{" x '\\\\' \"\\\\\" -- ' {- \" 中\n", 4, 0, api.OK},
}

// TestErrorsInEachOrder puts up to four of the faults into one text, with what is none between them.
func TestErrorsInEachOrder(t *testing.T) {
	for count := 1; count <= 4; count++ {
		chosen := make([]int, count)
		for more := true; more; more = advance(chosen) {
			text, rank, at, e := "", 4, 0, api.OK
			for _, i := range chosen {
				x := faults[i]
				if x.rank < rank {
					rank, at, e = x.rank, len(text)+x.at, x.e
				}
				text += x.s
			}
			gotToks, gotNotes, gotAt, gotE := Lex(text)
			if gotAt != at || gotE != e || e != api.OK && (len(gotToks) > 0 || len(gotNotes) > 0) {
				t.Fatalf("G1: Lex(%q) returns %d tokens, %d comments, %d and %d, not %d and %d", text, len(gotToks), len(gotNotes), gotAt, gotE, at, e)
			}
		}
	}
}

// advance counts on, with the faults as digits; it reports whether there was a next number.
func advance(chosen []int) bool {
	for i := range chosen {
		chosen[i]++
		if chosen[i] < len(faults) {
			return true
		}
		chosen[i] = 0
	}
	return false
}

// TestLongest has texts of exactly as many bytes as may be, and of one more.
func TestLongest(t *testing.T) {
	const most = 16777216
	for _, x := range []struct {
		before, filler, behind string
		toks, notes, at        int
		e                      api.Errno
	}{
		{"", " ", "", 0, 0, 0, api.OK},
		{"", " ", "x", 1, 0, 0, api.OK},
		{"x", "\n", "-- a", 1, 1, 0, api.OK},
		{"", "x", "", 1, 0, 0, api.OK},
		{"", "-", "", 0, 1, 0, api.OK},
		{"\"", "a", "\"", 1, 0, 0, api.OK},
		{"", "1", "", 1, 0, 0, api.OK},
		{"{-", "\t", "-}", 0, 1, 0, api.OK},
		{"{-", " ", "-", 0, 0, 0, api.ErrNote},
		{"x", " ", "'", 0, 0, most, api.ErrQuote},
		{"'", " ", "\x00", 0, 0, most - 1, api.ErrLex},
		{"\x00'", " ", "\xff", 0, 0, most - 1, api.ErrUtf},
		{"\xff", " ", "\xff", 0, 0, 0, api.ErrUtf},
	} {
		s := x.before + strings.Repeat(x.filler, most-len(x.before)-len(x.behind)) + x.behind
		toks, notes, at, e := Lex(s)
		if len(toks) != x.toks || len(notes) != x.notes || at != x.at || e != x.e {
			t.Errorf("G1: Lex of %d bytes, %q and %q .. %q, returns %d tokens, %d comments, %d and %d", len(s), x.before, x.filler, x.behind, len(toks), len(notes), at, e)
		}
		for _, longer := range []string{s + " ", s + "\xff", s + "x\x00'", "中" + s} {
			checkLex(t, longer, nil, nil, 0, api.ErrLong)
		}
	}
}

// TestFarPlaces holds the places of what stands at the end of the longest texts.
func TestFarPlaces(t *testing.T) {
	const most = 16777216
	toks, _, _, _ := Lex(strings.Repeat("\t", most-1) + "x")
	if len(toks) != 1 || toks[0] != tok(api.Var, "x", 1, 8*(most-1)+1) {
		t.Errorf("G1: %v", toks)
	}
	toks, _, _, _ = Lex(strings.Repeat("\r", most-2) + "\nx")
	if len(toks) != 1 || toks[0] != tok(api.Var, "x", most-1, 1) {
		t.Errorf("G1: %v", toks)
	}
}
