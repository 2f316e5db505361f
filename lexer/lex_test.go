package lexer

import (
	"fmt"
	"slices"
	"strings"
	"testing"
	"unicode/utf8"

	"offside/api"
)

// known are texts with all their tokens and comments.
var known = []struct {
	s     string
	toks  []api.Token
	notes []api.Note
}{
	{"", nil, nil},
	{" ", nil, nil},
	{"\n", nil, nil},
	{" \t\n\v\f\r \r\n", nil, nil},

	{"x -- a\n{- b -} = {- c -} 1",
		[]api.Token{tok(api.Var, "x", 1, 1), tok(api.Mark, "=", 2, 9), tok(api.Int, "1", 2, 19)},
		[]api.Note{remark("-- a", 1, api.Behind, 1, 3), remark("{- b -}", 1, api.Alone, 2, 1), remark("{- c -}", 2, api.Inline, 2, 11)}},
	{"1.x", []api.Token{tok(api.Int, "1", 1, 1), tok(api.Op, ".", 1, 2), tok(api.Var, "x", 1, 3)}, nil},

	// tabs and newlines
	{"\tx", []api.Token{tok(api.Var, "x", 1, 9)}, nil},
	{"x\ty\tz", []api.Token{tok(api.Var, "x", 1, 1), tok(api.Var, "y", 1, 9), tok(api.Var, "z", 1, 17)}, nil},
	{"      x\ty", []api.Token{tok(api.Var, "x", 1, 7), tok(api.Var, "y", 1, 9)}, nil},
	{"       x\ty", []api.Token{tok(api.Var, "x", 1, 8), tok(api.Var, "y", 1, 17)}, nil},
	{"        x\ty", []api.Token{tok(api.Var, "x", 1, 9), tok(api.Var, "y", 1, 17)}, nil},
	{"éé\té", []api.Token{tok(api.Var, "éé", 1, 1), tok(api.Var, "é", 1, 9)}, nil},
	{"a\nb\rc\fd\r\ne\vf", []api.Token{tok(api.Var, "a", 1, 1), tok(api.Var, "b", 2, 1), tok(api.Var, "c", 3, 1), tok(api.Var, "d", 4, 1), tok(api.Var, "e", 5, 1), tok(api.Var, "f", 5, 3)}, nil},
	{"a\r\n\r\nb\n\rc", []api.Token{tok(api.Var, "a", 1, 1), tok(api.Var, "b", 3, 1), tok(api.Var, "c", 5, 1)}, nil},
	{"a\n\tb\n \tc\n        \td", []api.Token{tok(api.Var, "a", 1, 1), tok(api.Var, "b", 2, 9), tok(api.Var, "c", 3, 9), tok(api.Var, "d", 4, 17)}, nil},
	{"--\r\nx", []api.Token{tok(api.Var, "x", 2, 1)}, []api.Note{remark("--", 0, api.Alone, 1, 1)}},
	{"--\ta\fx", []api.Token{tok(api.Var, "x", 2, 1)}, []api.Note{remark("--\ta", 0, api.Alone, 1, 1)}},
	{"\t-- a\r\t{- b -}", nil, []api.Note{remark("-- a", 0, api.Alone, 1, 9), remark("{- b -}", 0, api.Alone, 2, 9)}},
	{"{-\t-}x", []api.Token{tok(api.Var, "x", 1, 11)}, []api.Note{remark("{-\t-}", 0, api.Alone, 1, 1)}},
	{"a {-\t-}\tx", []api.Token{tok(api.Var, "a", 1, 1), tok(api.Var, "x", 1, 17)}, []api.Note{remark("{-\t-}", 1, api.Inline, 1, 3)}},
	{"{-\n\t-}\tx", []api.Token{tok(api.Var, "x", 2, 17)}, []api.Note{remark("{-\n\t-}", 0, api.Alone, 1, 1)}},
	{"{-\r\n\f -} x", []api.Token{tok(api.Var, "x", 3, 5)}, []api.Note{remark("{-\r\n\f -}", 0, api.Alone, 1, 1)}},
	{"\"\\\t\\\"x", []api.Token{tok(api.Text, "\"\\\t\\\"", 1, 1), tok(api.Var, "x", 1, 11)}, nil},
	{"\"a\\\r\n\t\\b\" x", []api.Token{tok(api.Text, "\"a\\\r\n\t\\b\"", 1, 1), tok(api.Var, "x", 2, 13)}, nil},
	{"\"\\\n\f\r \\\"'\\t'", []api.Token{tok(api.Text, "\"\\\n\f\r \\\"", 1, 1), tok(api.Char, "'\\t'", 4, 4)}, nil},

	// where comments stand
	{"{- a -}", nil, []api.Note{remark("{- a -}", 0, api.Alone, 1, 1)}},
	{"-- a", nil, []api.Note{remark("-- a", 0, api.Alone, 1, 1)}},
	{"{- a -} {- b -} -- c\n\n -- d", nil, []api.Note{remark("{- a -}", 0, api.Alone, 1, 1), remark("{- b -}", 0, api.Alone, 1, 9), remark("-- c", 0, api.Alone, 1, 17), remark("-- d", 0, api.Alone, 3, 2)}},
	{"{-a-}x{-b-}", []api.Token{tok(api.Var, "x", 1, 6)}, []api.Note{remark("{-a-}", 0, api.Alone, 1, 1), remark("{-b-}", 1, api.Behind, 1, 7)}},
	{"x{-a-}{-b-}--c\n", []api.Token{tok(api.Var, "x", 1, 1)}, []api.Note{remark("{-a-}", 1, api.Inline, 1, 2), remark("{-b-}", 1, api.Inline, 1, 7), remark("--c", 1, api.Behind, 1, 12)}},
	{"x{-a-} \n {-b-}y", []api.Token{tok(api.Var, "x", 1, 1), tok(api.Var, "y", 2, 7)}, []api.Note{remark("{-a-}", 1, api.Behind, 1, 2), remark("{-b-}", 1, api.Alone, 2, 2)}},
	{"x{-a\n-}{-b-}y", []api.Token{tok(api.Var, "x", 1, 1), tok(api.Var, "y", 2, 8)}, []api.Note{remark("{-a\n-}", 1, api.Alone, 1, 2), remark("{-b-}", 1, api.Alone, 2, 3)}},
	{"x{-a-}{-b\n-}{-c-}", []api.Token{tok(api.Var, "x", 1, 1)}, []api.Note{remark("{-a-}", 1, api.Inline, 1, 2), remark("{-b\n-}", 1, api.Alone, 1, 7), remark("{-c-}", 1, api.Alone, 2, 3)}},
	{"x{-a\n-}y{-b-}", []api.Token{tok(api.Var, "x", 1, 1), tok(api.Var, "y", 2, 3)}, []api.Note{remark("{-a\n-}", 1, api.Alone, 1, 2), remark("{-b-}", 2, api.Behind, 2, 4)}},
	{"\"\\\n\\\"{-a-}-- b", []api.Token{tok(api.Text, "\"\\\n\\\"", 1, 1)}, []api.Note{remark("{-a-}", 1, api.Inline, 2, 3), remark("-- b", 1, api.Behind, 2, 8)}},
	{"{-a-}\"\\\n\\\"{-b-}", []api.Token{tok(api.Text, "\"\\\n\\\"", 1, 6)}, []api.Note{remark("{-a-}", 0, api.Alone, 1, 1), remark("{-b-}", 1, api.Behind, 2, 3)}},
	{"x{-a-}\"\\\n\\\"\n{-b-}", []api.Token{tok(api.Var, "x", 1, 1), tok(api.Text, "\"\\\n\\\"", 1, 7)}, []api.Note{remark("{-a-}", 1, api.Inline, 1, 2), remark("{-b-}", 2, api.Alone, 3, 1)}},
	{"x{-a-}{-b\n-}", []api.Token{tok(api.Var, "x", 1, 1)}, []api.Note{remark("{-a-}", 1, api.Inline, 1, 2), remark("{-b\n-}", 1, api.Alone, 1, 7)}},

	// gaps
	{"{-a-}{{-b-}x{-c-};{-d-}y{-e-}}{-f-}",
		[]api.Token{tok(api.Punct, "{", 1, 6), tok(api.Var, "x", 1, 12), tok(api.Punct, ";", 1, 18), tok(api.Var, "y", 1, 24), tok(api.Punct, "}", 1, 30)},
		[]api.Note{remark("{-a-}", 0, api.Alone, 1, 1), remark("{-b-}", 0, api.Inline, 1, 7), remark("{-c-}", 1, api.Inline, 1, 13), remark("{-d-}", 1, api.Inline, 1, 19), remark("{-e-}", 2, api.Inline, 1, 25), remark("{-f-}", 2, api.Behind, 1, 31)}},
	{"({-a-},{-b-})[{-c-}]`{-d-}",
		[]api.Token{tok(api.Punct, "(", 1, 1), tok(api.Punct, ",", 1, 7), tok(api.Punct, ")", 1, 13), tok(api.Punct, "[", 1, 14), tok(api.Punct, "]", 1, 20), tok(api.Punct, "`", 1, 21)},
		[]api.Note{remark("{-a-}", 1, api.Inline, 1, 2), remark("{-b-}", 2, api.Inline, 1, 8), remark("{-c-}", 4, api.Inline, 1, 15), remark("{-d-}", 6, api.Behind, 1, 22)}},
	{"\"{\"{-a-}'}'{-b-}\";\"{-c-}",
		[]api.Token{tok(api.Text, "\"{\"", 1, 1), tok(api.Char, "'}'", 1, 9), tok(api.Text, "\";\"", 1, 17)},
		[]api.Note{remark("{-a-}", 1, api.Inline, 1, 4), remark("{-b-}", 2, api.Inline, 1, 12), remark("{-c-}", 3, api.Behind, 1, 20)}},

	// what a module has
	{"{-# LANGUAGE A #-}\nmodule M.N (f) where\n-- | f\nf :: Int -> Int\nf x = x M.+ 0x1F",
		[]api.Token{tok(api.Word, "module", 2, 1), tok(api.QCon, "M.N", 2, 8), tok(api.Punct, "(", 2, 12), tok(api.Var, "f", 2, 13), tok(api.Punct, ")", 2, 14), tok(api.Word, "where", 2, 16),
			tok(api.Var, "f", 4, 1), tok(api.Mark, "::", 4, 3), tok(api.Con, "Int", 4, 6), tok(api.Mark, "->", 4, 10), tok(api.Con, "Int", 4, 13),
			tok(api.Var, "f", 5, 1), tok(api.Var, "x", 5, 3), tok(api.Mark, "=", 5, 5), tok(api.Var, "x", 5, 7), tok(api.QOp, "M.+", 5, 9), tok(api.Int, "0x1F", 5, 13)},
		[]api.Note{remark("{-# LANGUAGE A #-}", 0, api.Alone, 1, 1), remark("-- | f", 6, api.Alone, 3, 1)}},
}

func TestLexKnown(t *testing.T) {
	for _, x := range known {
		checkLex(t, x.s, x.toks, x.notes, 0, api.OK)
	}
}

func TestLexEverywhere(t *testing.T) {
	eachText(func(s string) {
		toks, notes, at, e := wanted(t, s)
		checkLex(t, s, toks, notes, at, e)
	})
}

// spelt tells tokens and comments in their order, each with its kind ahead of it.
func spelt(toks []api.Token, notes []api.Note) string {
	var out []string
	for _, x := range toks {
		out = append(out, fmt.Sprintf("%d %s", x.Kind, x.Text))
	}
	for _, x := range notes {
		out = append(out, "note "+x.Text)
	}
	return strings.Join(out, " | ")
}

// TestLexemesTouch has lexemes and comments one behind the other without a blank: which is taken where several might begin. Where nothing is wanted there is an error.
func TestLexemesTouch(t *testing.T) {
	for _, x := range []struct{ s, want string }{
		{"x", "1 x"}, {"X", "2 X"}, {"M.x", "3 M.x"}, {"M.X", "4 M.X"}, {"+", "5 +"}, {":+", "6 :+"}, {"M.+", "7 M.+"}, {"M.:+", "8 M.:+"}, {"let", "9 let"}, {"=>", "10 =>"},
		{"1", "11 1"}, {"1.5", "12 1.5"}, {"'a'", "13 'a'"}, {`"a"`, `14 "a"`}, {"(", "15 ("}, {"{", "15 {"}, {";", "15 ;"},

		{"1x", "11 1 | 1 x"}, {"x1", "1 x1"}, {"1X", "11 1 | 2 X"}, {"1_", "11 1 | 9 _"}, {"1let", "11 1 | 9 let"},
		{"1.", "11 1 | 5 ."}, {"1.x", "11 1 | 5 . | 1 x"}, {".1", "5 . | 11 1"}, {"1..2", "11 1 | 10 .. | 11 2"}, {"[1..]", "15 [ | 11 1 | 10 .. | 15 ]"}, {"1.5.2", "12 1.5 | 5 . | 11 2"},
		{"1e5", "12 1e5"}, {"1e", "11 1 | 1 e"}, {"1e+", "11 1 | 1 e | 5 +"}, {"1.5e-x", "12 1.5 | 1 e | 5 - | 1 x"}, {"1e5e5", "12 1e5 | 1 e5"},
		{"0x", "11 0 | 1 x"}, {"0xg", "11 0 | 1 xg"}, {"0xfg", "11 0xf | 1 g"}, {"0o8", "11 0 | 1 o8"}, {"0O178", "11 0O17 | 11 8"}, {"0b1", "11 0 | 1 b1"}, {"0x1.5", "11 0x1 | 5 . | 11 5"},
		{"-1", "5 - | 11 1"}, {"+1", "5 + | 11 1"}, {"1+1", "11 1 | 5 + | 11 1"}, {"1'a'", "11 1 | 13 'a'"}, {`1"a"1`, `11 1 | 14 "a" | 11 1`}, {"1(", "11 1 | 15 ("},

		{"x'", "1 x'"}, {"x'a'", "1 x'a'"}, {"X'a'", "2 X'a'"}, {"let'a'", "1 let'a'"}, {"_'a'", "1 _'a'"}, {"M.x'a'", "3 M.x'a'"}, {"+'a'", "5 + | 13 'a'"}, {"('a')", "15 ( | 13 'a' | 15 )"}, {"'a'b", "13 'a' | 1 b"}, {"'a''b'", "13 'a' | 13 'b'"}, {"'''", ""},
		{`x"a"`, `1 x | 14 "a"`}, {`"a"x`, `14 "a" | 1 x`}, {`"a"'a'`, `14 "a" | 13 'a'`}, {`"a""b"`, `14 "a" | 14 "b"`}, {`'"'`, `13 '"'`}, {`'"'"'"`, `13 '"' | 14 "'"`}, {`'\''`, `13 '\''`}, {`"\""`, `14 "\""`},
		{`"-- a"`, `14 "-- a"`}, {`"{- a"`, `14 "{- a"`}, {`"a -}"`, `14 "a -}"`}, {`'-'--'`, `13 '-' | note --'`}, {`'{'-`, `13 '{' | 5 -`}, {`'{'--}`, `13 '{' | note --}`},

		{"x.y", "1 x | 5 . | 1 y"}, {"x.Y", "1 x | 5 . | 2 Y"}, {"X.y.z", "3 X.y | 5 . | 1 z"}, {"X.Y.z", "3 X.Y.z"}, {"X.Y.", "4 X.Y | 5 ."}, {"X.let", "2 X | 5 . | 9 let"}, {"X.lets", "3 X.lets"}, {"X.Y.where", "4 X.Y | 5 . | 9 where"}, {"X.1", "2 X | 5 . | 11 1"}, {"X._", "2 X | 5 . | 9 _"}, {"X.(", "2 X | 5 . | 15 ("}, {"X.'a'", "2 X | 5 . | 13 'a'"},
		{"F.", "2 F | 5 ."}, {"F..", "7 F.."}, {"F...", "2 F | 5 ..."}, {"[F..]", "15 [ | 7 F.. | 15 ]"}, {"[x..]", "15 [ | 1 x | 10 .. | 15 ]"}, {"F.=", "2 F | 5 .="}, {"F.==", "7 F.=="}, {"F.:", "2 F | 5 .:"}, {"F.::", "2 F | 5 .::"}, {"F.:+", "8 F.:+"}, {"F.x.y", "3 F.x | 5 . | 1 y"},

		{`\x->y`, `10 \ | 1 x | 10 -> | 1 y`}, {`\(x)`, `10 \ | 15 ( | 1 x | 15 )`}, {"x@y", "1 x | 10 @ | 1 y"}, {"~x", "10 ~ | 1 x"}, {"!x", "5 ! | 1 x"}, {"x=-1", "1 x | 5 =- | 11 1"}, {"x<-y", "1 x | 10 <- | 1 y"}, {"a:b", "1 a | 10 : | 1 b"}, {"a`f`b", "1 a | 15 ` | 1 f | 15 ` | 1 b"}, {"(,)", "15 ( | 15 , | 15 )"}, {"[]", "15 [ | 15 ]"}, {"{}", "15 { | 15 }"}, {";;", "15 ; | 15 ;"}, {"→λ", "5 → | 1 λ"}, {"Ωμέ", ""}, {"Ωμ", "2 Ωμ"},

		{"--", "note --"}, {"---", "note ---"}, {"--x", "note --x"}, {"-->", "5 -->"}, {"--|", "5 --|"}, {"|--", "5 |--"}, {"|--x", "5 |-- | 1 x"}, {"-->x", "5 --> | 1 x"}, {"-- >", "note -- >"}, {"- -", "5 - | 5 -"}, {"x--y", "1 x | note --y"}, {"1--y", "11 1 | note --y"}, {"'a'--y", "13 'a' | note --y"}, {"(--)", "15 ( | note --)"}, {"X.--", "7 X.--"}, {"X.--y", "7 X.-- | 1 y"}, {"x.--y", "1 x | 5 .-- | 1 y"}, {"X--", "2 X | note --"},
		{"{--}", "note {--}"}, {"{--x--}", "note {--x--}"}, {"{-{--}-}x", "1 x | note {-{--}-}"}, {"{{--}}", "15 { | 15 } | note {--}"}, {"{--}-}", "5 - | 15 } | note {--}"}, {"-}", "5 - | 15 }"}, {"--}", "note --}"}, {"{ -}", "15 { | 5 - | 15 }"}, {"{|-}", "15 { | 5 |- | 15 }"}, {"x{--}y", "1 x | 1 y | note {--}"}, {"1{--}2", "11 1 | 11 2 | note {--}"}, {"+{--}+", "5 + | 5 + | note {--}"}, {"M.{--}x", "2 M | 5 . | 1 x | note {--}"}, {"{--}--", "note {--} | note --"}, {"--{-", "note --{-"}, {"{-# A #-}", "note {-# A #-}"}, {"{-->-}", "note {-->-}"}, {"{-'-}", "note {-'-}"}, {"{-\"-}\"\"", "14 \"\" | note {-\"-}"},
	} {
		toks, notes, _, e := Lex(x.s)
		if got := spelt(toks, notes); got != x.want || (e == api.OK) != (x.want != "") {
			t.Errorf("G1: Lex(%q) has %s, %d, not %s", x.s, got, e, x.want)
		}
	}
}

// TestBlanks has each rune of the class between tokens, comments and both, and around them, once and often.
func TestBlanks(t *testing.T) {
	blanks := []string{"\t", "\n", "\v", "\f", "\r", " ", "\r\n"}
	parts := []string{"x", "+", "1", "'a'", `"a"`, "(", "{--}"}
	for _, b := range blanks {
		for _, c := range append(blanks, "") {
			for _, first := range parts {
				for _, second := range parts {
					s := c + b + first + b + c + b + second + b + c
					toks, notes, at, e := wanted(t, s)
					checkLex(t, s, toks, notes, at, e)
					if len(toks)+len(notes) != 2 || e != api.OK {
						t.Fatalf("G1: Lex(%q) has %s, %d", s, spelt(toks, notes), e)
					}
				}
			}
		}
	}
}

// TestEveryRune puts every rune between two names, into literals and into comments, and holds what comes of it against its class.
func TestEveryRune(t *testing.T) {
	for c := rune(0); c <= utf8.MaxRune; c++ {
		if !utf8.ValidRune(c) {
			continue
		}
		everyRune(t, c)
	}
}

func everyRune(t *testing.T, c rune) {
	r := string(c)
	if isNothing(c) {
		for _, s := range []string{"x" + r + "y", "-" + r, "'" + r + "'", `"` + r + `"`, "-" + r + "-", "\n" + r + "'", "{" + r} {
			checkLex(t, s, nil, nil, 1, api.ErrLex)
		}
		checkLex(t, "{-"+r+"-}", nil, nil, 2, api.ErrLex)
		checkLex(t, "--"+r, nil, nil, 2, api.ErrLex)
		checkLex(t, "' x\u4e2d"+r, nil, nil, 6, api.ErrLex)
		return
	}
	s := "x" + r + "y"
	toks, notes, at, e := wanted(t, s)
	checkLex(t, s, toks, notes, at, e)
	if c >= 9 && c <= 13 || c == ' ' {
		if len(toks) != 2 {
			t.Fatalf("G1: Lex(%q) has %s", s, spelt(toks, notes))
		}
		return
	}
	text := `"` + r + `"`
	if c != '"' && c != '\\' {
		checkLex(t, text, []api.Token{tok(api.Text, text, 1, 1)}, nil, 0, api.OK)
	}
	remarked := "{-" + r + " -}"
	checkLex(t, remarked, nil, []api.Note{remark(remarked, 0, api.Alone, 1, 1)}, 0, api.OK)
	behind := "x -- " + r
	checkLex(t, behind, []api.Token{tok(api.Var, "x", 1, 1)}, []api.Note{remark("-- "+r, 1, api.Behind, 1, 3)}, 0, api.OK)
}

// TestEveryTwoBytes puts every two bytes, and so what encodes no rune, between names.
func TestEveryTwoBytes(t *testing.T) {
	for a := range 256 {
		for b := range 256 {
			s := string([]byte{'x', byte(a), byte(b), 'y'})
			toks, notes, at, e := wanted(t, s)
			checkLex(t, s, toks, notes, at, e)
		}
	}
}

// TestWhere tells, for each comment of a text, where it stands: I, B or A.
func TestWhere(t *testing.T) {
	const gap = "\"\\\n\\\"" // a literal that ends in a later line than it begins
	for _, x := range []struct{ s, want string }{
		{"{--}", "A"}, {"--", "A"}, {" {--} ", "A"}, {"\n--", "A"}, {"{-\n-}", "A"},
		{"{--}x", "A"}, {"{--}\nx", "A"}, {"{-\n-}x", "A"}, {"--\nx", "A"},
		{"x{--}", "B"}, {"x{--} ", "B"}, {"x{--}\n", "B"}, {"x{--}\ny", "B"}, {"x{--}\n{--}", "BA"}, {"x--", "B"}, {"x--\n", "B"}, {"x--\ny", "B"}, {"x--\n--", "BA"},
		{"x\n{--}", "A"}, {"x\n--", "A"}, {"x\r{--}", "A"}, {"x\f{--}", "A"}, {"x\r\n{--}", "A"}, {"x\v{--}", "B"}, {"x\t{--}", "B"}, {"x\n{--}y", "A"}, {"x\n\n\n{--}", "A"},
		{"x{--}y", "I"}, {"x{--}\vy", "I"}, {"x{--}\ty", "I"}, {"x{--}\ry", "B"}, {"x{--}\fy", "B"}, {"x{--}\r\ny", "B"},
		{"x{-\n-}", "A"}, {"x{-\n-}y", "A"}, {"x{-\n-}\ny", "A"}, {"x{-\r-}y", "A"}, {"x{-\f-}y", "A"}, {"x{-\r\n-}y", "A"}, {"x{-\v-}y", "I"},
		{"x{--}{--}", "IB"}, {"x{--}{--}y", "II"}, {"x{--}--", "IB"}, {"x{--}{--}{--}", "IIB"}, {"x{--}{--}\n{--}", "IBA"}, {"x{--}{--}{--}y{--}", "IIIB"}, {"x{--}y{--}z--", "IIB"},
		{"{--}{--}", "AA"}, {"{--}--", "AA"}, {"{--}{--}x", "AA"}, {"{--}{--}x{--}", "AAB"}, {"{--}x{--}", "AB"}, {"{--}x{--}y", "AI"}, {"{--}x\n{--}y", "AA"}, {"x\n{--}{--}", "AA"}, {"x\n{--}{--}{--}y", "AAA"},
		{"x{--}{-\n-}", "IA"}, {"x{--}{-\n-}y", "IA"}, {"x{--}{-\n-}{--}", "IAA"}, {"x{--}{-\n-}{--}y", "IAA"}, {"x{--}{-\n-}y{--}", "IAB"}, {"x{-\n-}{--}", "AA"}, {"x{-\n-}{--}y", "AA"}, {"x{-\n-}{--}{--}y", "AAA"}, {"x{-\n-}--", "AA"}, {"x{-\n-}{-\n-}", "AA"}, {"x{-\n-}y{-\n-}z{--}", "AAB"}, {"x{-\n-}\n{--}", "AA"},
		{"{-\n-}{--}", "AA"}, {"{-\n-}{--}x", "AA"}, {"{-\n-}x{--}", "AB"}, {"{--}{-\n-}", "AA"}, {"{--}{-\n-}x{--}", "AAB"},
		{"x{--}\n{--}{--}y", "BAA"}, {"x{--}\n{--}\n{--}", "BAA"}, {"x{--}\ny{--}", "BB"}, {"x{--}\ny{--}z", "BI"}, {"x--\n{--}y", "BA"}, {"x--\n--\n--", "BAA"}, {"x--\ny--", "BB"},
		{gap + "{--}", "B"}, {gap + "--", "B"}, {gap + "{--}x", "I"}, {gap + "{--}{--}", "IB"}, {gap + "{-\n-}", "A"}, {gap + "\n{--}", "A"}, {gap + "\n{--}x", "A"}, {gap + "{--}\nx", "B"},
		{"{--}" + gap, "A"}, {"{--}" + gap + "{--}", "AB"}, {"x{--}" + gap, "I"}, {"x{--}" + gap + "{--}", "IB"}, {"x{--}" + gap + "{--}" + gap, "II"}, {"x{--}\n" + gap + "{--}", "BB"}, {"x{-\n-}" + gap + "{--}", "AB"}, {"x" + gap + "{--}y", "I"},
		{"{ {--}", "B"}, {"{{--}", "B"}, {"{{--}}", "I"}, {";{--};", "I"}, {"}{--}", "B"}, {"x{--};", "I"}, {"x{--}}--", "IB"},
		{"a { {- x -} {- y -}\n{- z -} {- w -} b", "IBAA"},
	} {
		_, notes, _, e := Lex(x.s)
		got := ""
		for _, n := range notes {
			got += string("-IBA"[n.Where])
		}
		if got != x.want || e != api.OK {
			t.Errorf("G1: the comments of %q stand %s, not %s (%d)", x.s, got, x.want, e)
		}
	}
}

// TestGaps puts comments into every gap of every few tokens.
func TestGaps(t *testing.T) {
	parts := []string{"x", "A.x", "+", "1", "'}'", `";"`, "let", "=", "(", "]", ",", "`", "{", "}", ";"}
	mixes(parts, 3, func(s string) {
		toks, _, _, _ := Lex(s)
		text, want := "{-a-} {-b-}", []int{0, 0}
		gap := 0
		for _, x := range toks {
			if x.Text != "{" && x.Text != "}" && x.Text != ";" {
				gap++
			}
			text += " " + x.Text + "\n{-a-}{-b-} "
			want = append(want, gap, gap)
		}
		_, notes, _, e := Lex(text)
		var got []int
		for _, n := range notes {
			got = append(got, n.Gap)
		}
		if !slices.Equal(got, want) || e != api.OK {
			t.Fatalf("G1: the gaps of %q are %v, not %v (%d)", text, got, want, e)
		}
	})
}

// TestLongTexts holds Lex to times that grow as its texts do: tokens and comments in one line, in lines of their own, and nested deep.
func TestLongTexts(t *testing.T) {
	const n = 1 << 18
	toks, notes, _, e := Lex(strings.Repeat("x {--}\t", n))
	if len(toks) != n || len(notes) != n || e != api.OK || toks[n-1] != tok(api.Var, "x", 1, 8*n-7) || notes[n-2] != remark("{--}", n-1, api.Inline, 1, 8*n-13) || notes[n-1] != remark("{--}", n, api.Behind, 1, 8*n-5) {
		t.Errorf("G1: %d tokens, %d comments, %d", len(toks), len(notes), e)
	}
	toks, notes, _, e = Lex(strings.Repeat("{--}\r\n x--\r\n", n))
	if len(toks) != n || len(notes) != 2*n || e != api.OK || toks[n-1] != tok(api.Var, "x", 2*n, 2) || notes[2*n-2] != remark("{--}", n-1, api.Alone, 2*n-1, 1) || notes[2*n-1] != remark("--", n, api.Behind, 2*n, 3) {
		t.Errorf("G1: %d tokens, %d comments, %d", len(toks), len(notes), e)
	}
	toks, notes, _, e = Lex(strings.Repeat("{-", n) + strings.Repeat("-}", n) + strings.Repeat("{", n))
	if len(toks) != n || len(notes) != 1 || e != api.OK || toks[n-1] != tok(api.Punct, "{", 1, 5*n) {
		t.Errorf("G1: %d tokens, %d comments, %d", len(toks), len(notes), e)
	}
	toks, _, _, e = Lex(strings.Repeat("A.", n) + strings.Repeat("\"\\\n\\\"'\\\\'", n))
	if len(toks) != 2+2*n || e != api.OK || toks[0].Kind != api.QCon || toks[1] != tok(api.Op, ".", 1, 2*n) || toks[2*n+1] != tok(api.Char, "'\\\\'", n+1, 3) {
		t.Errorf("G1: %d tokens, %d", len(toks), e)
	}
}

// TestLexIsNew writes into what Lex returned.
func TestLexIsNew(t *testing.T) {
	const s = "x {- a -} y"
	first, firstNotes, _, _ := Lex(s)
	clear(first[:cap(first)])
	clear(firstNotes[:cap(firstNotes)])
	checkLex(t, s, []api.Token{tok(api.Var, "x", 1, 1), tok(api.Var, "y", 1, 11)}, []api.Note{remark("{- a -}", 1, api.Inline, 1, 3)}, 0, api.OK)
}
