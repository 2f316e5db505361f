package place

import (
	"fmt"
	"math"
	"slices"
	"strings"
	"testing"
	"unicode/utf8"

	"offside/api"
)

// atoms are what texts are put together of: the bytes of newlines, tabs, what looks like a newline and is none, runes of one to four bytes, and bytes that begin no encoding.
var atoms = []string{"\n", "\r", "\f", "\t", " ", "a", "\v", "\b", "\x00", "é", "\u0085", "\u2028", "→", "😀", "\xff", "\xc3", "\xe2\x86", "\x80"}

// texts are longer than what is put together of a few atoms.
var texts = []string{
	"",
	"module M where\r\n\n\tf = 'a'\f\n  where\tg\t= \"é\"\r",
	"\t\t\t\r\n\t \t  \t\n12345678\tx\n1234567\tx\n123456\tx\r\r\n\n\r",
	"\xffa\t\xe2\x86\t→→→→→→→\t→→→→→→→→\t\xf0\x9f\x98\r\n\xf4\x90\x80\x80\t",
	strings.Repeat("\t", 20) + strings.Repeat("\r\n", 20) + strings.Repeat("é", 20),
	strings.Repeat("abc\r\n\tde\f", 30),
}

// eachText calls f with the longer texts, with the texts of up to three atoms, and with two atoms in every column around the first tab stops.
func eachText(f func(s string)) {
	for _, s := range texts {
		f(s)
	}
	level := []string{""}
	for range 4 {
		var next []string
		for _, s := range level {
			f(s)
			for _, a := range atoms {
				next = append(next, s+a)
			}
		}
		level = next
	}
	for _, a := range atoms {
		for _, b := range atoms {
			for n := range 20 {
				f(strings.Repeat("x", n) + a + b)
				f(a + strings.Repeat("é", n) + b)
			}
		}
	}
}

// A piece is a character or a newline, with the places before and behind it.
type piece struct {
	text                  string
	at, line, col         int
	isNewline             bool
	lineBehind, colBehind int
}

// cut divides a text into its pieces, as the chapter's words say: a newline where one can be read, the longest first, or else a character.
func cut(s string, col int) []piece {
	var all []piece
	line := 1
	for at := 0; at < len(s); {
		p := piece{at: at, line: line, col: col}
		_, size := utf8.DecodeRuneInString(s[at:])
		p.text = s[at : at+size]
		for _, newline := range []string{"\f", "\n", "\r", "\r\n"} {
			if strings.HasPrefix(s[at:], newline) {
				p.text, p.isNewline = newline, true
			}
		}
		switch {
		case p.isNewline:
			line, col = line+1, 1
		case p.text == "\t":
			for col++; col%8 != 1; col++ {
			}
		default:
			col++
		}
		p.lineBehind, p.colBehind = line, col
		all = append(all, p)
		at += len(p.text)
	}
	return all
}

// wantedOf is the place behind the last piece that ends at or before the byte at.
func wantedOf(s string, at int) (int, int) {
	line, col := 1, 1
	for _, p := range cut(s, 1) {
		if p.at+len(p.text) <= at {
			line, col = p.lineBehind, p.colBehind
		}
	}
	return line, col
}

func wantedLines(s string) []string {
	lines := []string{""}
	for _, p := range cut(s, 1) {
		if p.isNewline {
			lines = append(lines, "")
		} else {
			lines[len(lines)-1] += p.text
		}
	}
	return lines
}

func wantedWidth(s string, col int) int {
	for _, p := range cut(s, col) {
		col = p.colBehind
	}
	return col
}

func wantedSpread(s string) string {
	out := ""
	for _, p := range cut(s, 1) {
		if p.text == "\t" {
			out += fmt.Sprintf("%*s", p.colBehind-p.col, "")
		} else {
			out += p.text
		}
	}
	return out
}

func TestOfKnown(t *testing.T) {
	for _, x := range []struct {
		s             string
		at, line, col int
	}{
		{"", 0, 1, 1},
		{"a", 0, 1, 1},
		{"a", 1, 1, 2},
		{"a\tb", 1, 1, 2},
		{"a\tb", 2, 1, 9},
		{"a\tb", 3, 1, 10},
		{"1234567\t", 8, 1, 9},
		{"12345678\t", 9, 1, 17},
		{"\t\t", 2, 1, 17},
		{"a\r\nb", 1, 1, 2},
		{"a\r\nb", 2, 1, 2},
		{"a\r\nb", 3, 2, 1},
		{"a\r\n", 3, 2, 1},
		{"a\r", 2, 2, 1},
		{"a\n", 2, 2, 1},
		{"a\f", 2, 2, 1},
		{"\n\r", 1, 2, 1},
		{"\n\r", 2, 3, 1},
		{"\r\r\n", 1, 2, 1},
		{"\r\r\n", 2, 2, 1},
		{"\r\r\n", 3, 3, 1},
		{"\r\n\n", 3, 3, 1},
		{"\r\n\r\n", 3, 2, 1},
		{"\r\n\r\n", 4, 3, 1},
		{"\f\n\r", 3, 4, 1},
		{"\r\f", 2, 3, 1},
		{"é\n", 1, 1, 1},
		{"é\n", 2, 1, 2},
		{"é\n", 3, 2, 1},
		{"a😀b", 1, 1, 2},
		{"a😀b", 2, 1, 2},
		{"a😀b", 4, 1, 2},
		{"a😀b", 5, 1, 3},
		{"\xe2\x86", 1, 1, 2},
		{"\xe2\x86", 2, 1, 3},
		{"\xc3\r\n", 1, 1, 2},
		{"\v\x00\b\u0085\u2028", 8, 1, 6},
	} {
		if line, col, e := Of(x.s, x.at); line != x.line || col != x.col || e != api.OK {
			t.Errorf("B1: Of(%q, %d) = %d, %d, %d, not %d, %d", x.s, x.at, line, col, e, x.line, x.col)
		}
	}
}

func TestOfEverywhere(t *testing.T) {
	eachText(func(s string) {
		for at := 0; at <= len(s); at++ {
			wantLine, wantCol := wantedOf(s, at)
			if line, col, e := Of(s, at); line != wantLine || col != wantCol || e != api.OK {
				t.Fatalf("B1: Of(%q, %d) = %d, %d, %d, not %d, %d", s, at, line, col, e, wantLine, wantCol)
			}
		}
	})
}

func TestOfOutside(t *testing.T) {
	for _, s := range append(texts, atoms...) {
		for _, at := range []int{-1, math.MinInt, len(s) + 1, math.MaxInt} {
			if line, col, e := Of(s, at); line != 0 || col != 0 || e != api.ErrArg {
				t.Errorf("B1: Of(%q, %d) = %d, %d, %d", s, at, line, col, e)
			}
		}
	}
}

func TestLinesKnown(t *testing.T) {
	for _, x := range []struct {
		s    string
		want []string
	}{
		{"", []string{""}},
		{"a", []string{"a"}},
		{"a\n", []string{"a", ""}},
		{"a\r", []string{"a", ""}},
		{"a\f", []string{"a", ""}},
		{"a\r\n", []string{"a", ""}},
		{"\r\n", []string{"", ""}},
		{"\n\r", []string{"", "", ""}},
		{"\r\r\n", []string{"", "", ""}},
		{"\r\n\n", []string{"", "", ""}},
		{"\r\n\r\n", []string{"", "", ""}},
		{"\r\f\n", []string{"", "", "", ""}},
		{"a\r\nb\n\rc\f", []string{"a", "b", "", "c", ""}},
		{" \t\v\x00\u0085\u2028\xff", []string{" \t\v\x00\u0085\u2028\xff"}},
		{"é\xc3\n\x80→", []string{"é\xc3", "\x80→"}},
	} {
		if got := Lines(x.s); !slices.Equal(got, x.want) {
			t.Errorf("B2: Lines(%q) = %q, not %q", x.s, got, x.want)
		}
	}
}

func TestLinesEverywhere(t *testing.T) {
	eachText(func(s string) {
		if got, want := Lines(s), wantedLines(s); !slices.Equal(got, want) {
			t.Fatalf("B2: Lines(%q) = %q, not %q", s, got, want)
		}
	})
}

func TestWidthKnown(t *testing.T) {
	for _, x := range []struct {
		s         string
		col, want int
	}{
		{"", 1, 1},
		{"", 1 << 31, 1 << 31},
		{"abc", 1, 4},
		{"é\t", 1, 9},
		{"\t", 1, 9},
		{"\t", 2, 9},
		{"\t", 7, 9},
		{"\t", 8, 9},
		{"\t", 9, 17},
		{"\t", 16, 17},
		{"\t", 17, 25},
		{"\t\t", 8, 17},
		{"a\nbc", 7, 3},
		{"a\r\n", 7, 1},
		{"a\r", 7, 1},
		{"\f\t", 7, 9},
		{"\xff\xe2\x86", 5, 8},
		{"\v\x00", 5, 7},
		{"a", 1 << 31, 1<<31 + 1},
		{"\t", 1 << 31, 1<<31 + 1},
		{"\t", 1<<31 - 8, 1<<31 - 7},
		{"\t", 1<<31 - 7, 1<<31 + 1},
		{"a\t", 1 << 31, 1<<31 + 9},
		{"\n", 1 << 31, 1},
	} {
		if got, e := Width(x.s, x.col); got != x.want || e != api.OK {
			t.Errorf("B3: Width(%q, %d) = %d, %d, not %d", x.s, x.col, got, e, x.want)
		}
	}
}

func TestWidthEverywhere(t *testing.T) {
	eachText(func(s string) {
		for _, col := range []int{1, 2, 7, 8, 9, 10, 16, 17, 18, 1000, 1<<31 - 8, 1<<31 - 7, 1<<31 - 1, 1 << 31} {
			if got, e := Width(s, col); got != wantedWidth(s, col) || e != api.OK {
				t.Fatalf("B3: Width(%q, %d) = %d, %d, not %d", s, col, got, e, wantedWidth(s, col))
			}
		}
	})
}

func TestWidthOutside(t *testing.T) {
	for _, s := range append(texts, atoms...) {
		for _, col := range []int{0, -1, math.MinInt, 1<<31 + 1, math.MaxInt} {
			if got, e := Width(s, col); got != 0 || e != api.ErrArg {
				t.Errorf("B3: Width(%q, %d) = %d, %d", s, col, got, e)
			}
		}
	}
}

func TestSpreadKnown(t *testing.T) {
	for _, x := range []struct{ s, want string }{
		{"", ""},
		{"a b\r\nc\fd\re\n", "a b\r\nc\fd\re\n"},
		{"\t", "        "},
		{"a\tb", "a       b"},
		{"1234567\tb", "1234567 b"},
		{"12345678\tb", "12345678        b"},
		{"\t\ta", "                a"},
		{"a\tb\n\tc", "a       b\n        c"},
		{"a\r\n\tb\r\tc\f\td", "a\r\n        b\r        c\f        d"},
		{"é→😀\tb", "é→😀     b"},
		{"\xff\xe2\x86\tb\x80", "\xff\xe2\x86     b\x80"},
		{"\v\x00\tb", "\v\x00      b"},
	} {
		if got := Spread(x.s); got != x.want {
			t.Errorf("B4: Spread(%q) = %q, not %q", x.s, got, x.want)
		}
	}
}

func TestSpreadEverywhere(t *testing.T) {
	eachText(func(s string) {
		if got, want := Spread(s), wantedSpread(s); got != want {
			t.Fatalf("B4: Spread(%q) = %q, not %q", s, got, want)
		}
	})
}

func TestTrimKnown(t *testing.T) {
	for _, x := range []struct{ s, want string }{
		{"", ""},
		{" ", ""},
		{"\t\n\v\f\r ", ""},
		{"a", "a"},
		{"a \t\n", "a"},
		{" a \t\v\n", " a"},
		{"\n\t a b\r\n", "\n\t a b"},
		{"a\u00a0 ", "a\u00a0"},
		{"a\u0085\t", "a\u0085"},
		{"a\u2028\n", "a\u2028"},
		{"a\x00 ", "a\x00"},
		{"é\xc3 ", "é\xc3"},
		{"a \x80", "a \x80"},
	} {
		if got := Trim(x.s); got != x.want {
			t.Errorf("B5: Trim(%q) = %q, not %q", x.s, got, x.want)
		}
	}
}

func TestTrimEveryByte(t *testing.T) {
	for a := range 256 {
		for b := range 256 {
			s := string([]byte{' ', 'x', byte(a), byte(b)})
			want := s
			for isBlank(want[len(want)-1]) {
				want = want[:len(want)-1]
			}
			if got := Trim(s); got != want {
				t.Fatalf("B5: Trim(%q) = %q, not %q", s, got, want)
			}
		}
	}
}

func isBlank(b byte) bool {
	return b >= 9 && b <= 13 || b == 32
}

// A seen is a character with its place.
type seen struct {
	text      string
	line, col int
}

// charsOf returns the characters of s that are neither tabs nor spaces, with the places that Of gives them.
func charsOf(t *testing.T, s string) []seen {
	var all []seen
	for _, p := range cut(s, 1) {
		if p.isNewline || p.text == "\t" || p.text == " " {
			continue
		}
		line, col, e := Of(s, p.at)
		if e != api.OK {
			t.Fatalf("B6: Of(%q, %d) = %d, %d, %d", s, p.at, line, col, e)
		}
		all = append(all, seen{p.text, line, col})
	}
	return all
}

func TestSpreadKeepsPlaces(t *testing.T) {
	eachText(func(s string) {
		out := Spread(s)
		if strings.Contains(out, "\t") {
			t.Fatalf("B6: Spread(%q) = %q has a tab", s, out)
		}
		if again := Spread(out); again != out {
			t.Fatalf("B6: Spread(%q) = %q", out, again)
		}
		if a, b := charsOf(t, s), charsOf(t, out); !slices.Equal(a, b) {
			t.Fatalf("B6: Spread(%q) = %q moves %v to %v", s, out, a, b)
		}
		line, col, e := Of(s, len(s))
		if outLine, outCol, f := Of(out, len(out)); outLine != line || outCol != col || e != api.OK || f != api.OK {
			t.Fatalf("B6: Spread(%q) = %q moves the end from %d, %d to %d, %d", s, out, line, col, outLine, outCol)
		}
	})
}

func TestLastLineIsTheirNumber(t *testing.T) {
	eachText(func(s string) {
		if line, _, e := Of(s, len(s)); line != len(Lines(s)) || e != api.OK {
			t.Fatalf("B6: %q ends in line %d and has %d lines", s, line, len(Lines(s)))
		}
	})
}

// TestLongTexts holds the calls to times that grow as their texts do.
func TestLongTexts(t *testing.T) {
	const n = 1 << 20
	s := strings.Repeat("é\t\r\n", n)
	if line, col, e := Of(s, len(s)); line != n+1 || col != 1 || e != api.OK {
		t.Errorf("B1: Of = %d, %d, %d", line, col, e)
	}
	if got := len(Lines(s)); got != n+1 {
		t.Errorf("B2: %d lines", got)
	}
	if got, e := Width(strings.Repeat("\t", n), 1); got != 8*n+1 || e != api.OK {
		t.Errorf("B3: Width = %d, %d", got, e)
	}
	if got := Spread(s); got != strings.Repeat("é       \r\n", n) {
		t.Errorf("B4: Spread has %d bytes", len(got))
	}
	if got := Trim("a" + strings.Repeat("\t\r\n", n)); got != "a" {
		t.Errorf("B5: Trim has %d bytes", len(got))
	}
}
