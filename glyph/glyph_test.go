package glyph

import (
	"math"
	"strings"
	"testing"
	"unicode/utf8"

	"offside/api"
)

// edgeBytes are the bytes at which the rules of UTF-8 change, and their neighbours.
var edgeBytes = []byte{0x00, 0x0A, 0x41, 0x7F, 0x80, 0x8F, 0x90, 0x9F, 0xA0, 0xBD, 0xBF, 0xC0, 0xC1, 0xC2, 0xDF, 0xE0, 0xE1, 0xEC, 0xED, 0xEE, 0xEF, 0xF0, 0xF1, 0xF3, 0xF4, 0xF5, 0xF8, 0xFF}

// texts are UTF-8 or not, and none is so in the same way as another.
var texts = []string{
	"", "a", "aé", "λx → x", "module M where\r\n\tf = 'a'\f", "\x00\x7f", "\u00a0\u00ad", "😀😀", "中文", "a\xc3", "\xc3\xa9\xc3", "\xff", "\x80\x80", "a�b", "�\xef\xbf", "\xed\xa0\x80", "\xc0\x80", "\xf4\x90\x80\x80", "\xe2\x86", "\xf0\x9f\x98", "{-`\"'-}", "+*a", "\U0010ffff",
}

// eachEdge calls f with every text of up to four edge bytes.
func eachEdge(f func(s string)) {
	level := []string{""}
	for range 4 {
		var next []string
		for _, s := range level {
			for _, b := range edgeBytes {
				longer := s + string([]byte{b})
				f(longer)
				next = append(next, longer)
			}
		}
		level = next
	}
}

// decode tells what the encoding at the head of s is, from the bits: some number that is written just like these bytes.
func decode(s string) (rune, int) {
	lead := []byte{0, 0x7F, 0x1F, 0x0F, 0x07}
	for n := 1; n <= 4 && n <= len(s); n++ {
		c := rune(s[0] & lead[n])
		for i := 1; i < n; i++ {
			c = c<<6 | rune(s[i]&0x3F)
		}
		if utf8.ValidRune(c) && string(c) == s[:n] {
			return c, n
		}
	}
	return 65533, 1
}

func TestNextKnown(t *testing.T) {
	for _, x := range []struct {
		s    string
		at   int
		c    rune
		size int
	}{
		{"aé", 0, 'a', 1},
		{"aé", 1, 233, 2},
		{"aé", 2, 65533, 1},
		{"a→b", 1, 8594, 3},
		{"a→b", 4, 'b', 1},
		{"\x00", 0, 0, 1},
		{"�", 0, 65533, 3},
		{"\xff", 0, 65533, 1},
		{"\xc1\xbf", 0, 65533, 1},
		{"\xe0\x9f\xbf", 0, 65533, 1},
		{"\xf0\x8f\xbf\xbf", 0, 65533, 1},
		{"\xed\x9f\xbf", 0, 0xD7FF, 3},
		{"\xed\xa0\x80", 0, 65533, 1},
		{"\xed\xbf\xbf", 0, 65533, 1},
		{"\xee\x80\x80", 0, 0xE000, 3},
		{"\xf4\x8f\xbf\xbf", 0, 0x10FFFF, 4},
		{"\xf4\x90\x80\x80", 0, 65533, 1},
		{"\xe2\x86", 0, 65533, 1},
		{"\xf0\x9f\x98", 0, 65533, 1},
		{"\xc3a", 0, 65533, 1},
	} {
		if c, size := Next(x.s, x.at); c != x.c || size != x.size {
			t.Errorf("A1: Next(%q, %d) = %d, %d, not %d, %d", x.s, x.at, c, size, x.c, x.size)
		}
	}
}

func TestNextOutside(t *testing.T) {
	for _, s := range texts {
		for _, at := range []int{-1, math.MinInt, len(s), len(s) + 1, math.MaxInt} {
			if c, size := Next(s, at); c != 0 || size != 0 {
				t.Errorf("A1: Next(%q, %d) = %d, %d", s, at, c, size)
			}
		}
	}
}

func TestNextEveryRune(t *testing.T) {
	for c := rune(0); c <= 0x10FFFF; c++ {
		if !utf8.ValidRune(c) {
			continue
		}
		s := "é" + string(c) + "a"
		if got, size := Next(s, 2); got != c || size != len(s)-3 {
			t.Fatalf("A1: Next(%q, 2) = %d, %d", s, got, size)
		}
	}
}

func TestNextEdges(t *testing.T) {
	eachEdge(func(s string) {
		want, n := decode(s)
		if c, size := Next(s, 0); c != want || size != n {
			t.Fatalf("A1: Next(%q, 0) = %d, %d, not %d, %d", s, c, size, want, n)
		}
	})
}

func TestCheckKnown(t *testing.T) {
	for _, x := range []struct {
		s  string
		at int
		e  api.Errno
	}{
		{"", 0, api.OK},
		{"aé→😀", 10, api.OK},
		{"�", 3, api.OK},
		{"\x00\x7f", 2, api.OK},
		{"a\xc3", 1, api.ErrUtf},
		{"��\xff�", 6, api.ErrUtf},
		{"\xff\xff", 0, api.ErrUtf},
		{"é\xed\xa0\x80", 2, api.ErrUtf},
		{"\xc0\x80", 0, api.ErrUtf},
		{"ab\xf4\x90\x80\x80", 2, api.ErrUtf},
		{"a→\x80", 4, api.ErrUtf},
	} {
		if at, e := Check(x.s); at != x.at || e != x.e {
			t.Errorf("A2: Check(%q) = %d, %d, not %d, %d", x.s, at, e, x.at, x.e)
		}
	}
}

func TestCheckEdges(t *testing.T) {
	eachEdge(func(s string) {
		want, e := len(s), api.OK
		for i := 0; i < len(s); {
			c, n := decode(s[i:])
			if c == 65533 && n == 1 {
				want, e = i, api.ErrUtf
				break
			}
			i += n
		}
		if at, got := Check(s); at != want || got != e {
			t.Fatalf("A2: Check(%q) = %d, %d, not %d, %d", s, at, got, want, e)
		}
	})
}

// span is a stretch of runes of one class.
type span struct{ first, last rune }

// classSpans are the chapter's classes in its order, of which the first that holds a rune is its class.
var classSpans = []struct {
	class int
	spans []span
}{
	{api.Blank, []span{{9, 13}, {32, 32}}},
	{api.Small, []span{{97, 122}, {95, 95}, {223, 246}, {248, 255}, {945, 969}}},
	{api.Large, []span{{65, 90}, {192, 214}, {216, 222}, {913, 929}, {931, 937}}},
	{api.Digit, []span{{48, 57}}},
	{api.Special, []span{{40, 41}, {44, 44}, {59, 59}, {91, 91}, {93, 93}, {96, 96}, {123, 123}, {125, 125}}},
	{api.Quote, []span{{34, 34}, {39, 39}}},
	{api.Symbol, []span{{33, 126}, {161, 172}, {174, 191}, {215, 215}, {247, 247}, {8592, 8959}}},
	{api.NoClass, []span{{math.MinInt32, 159}, {173, 173}, {55296, 57343}, {1114112, math.MaxInt32}}},
}

func wantedClass(c rune) int {
	for _, row := range classSpans {
		for _, s := range row.spans {
			if s.first <= c && c <= s.last {
				return row.class
			}
		}
	}
	return api.Other
}

func TestClassEveryRune(t *testing.T) {
	for c := rune(-300); c <= 0x10FFFF+300; c++ {
		if got, want := Class(c), wantedClass(c); got != want {
			t.Errorf("A3: Class(%d) = %d, not %d", c, got, want)
		}
	}
}

func TestClassKnown(t *testing.T) {
	for _, x := range []struct {
		runes string
		class int
	}{
		{"\t\n\v\f\r ", api.Blank},
		{"az_ßöøÿαςω", api.Small},
		{"AZÀÖØÞΑΡΣΩ", api.Large},
		{"0123456789", api.Digit},
		{"(),;[]`{}", api.Special},
		{"\"'", api.Quote},
		{"!#$%&*+./:<=>?@\\^|-~¡µ¬®¿×÷←⋿", api.Symbol},
		{"\x00\x08\x0e\x1f\x7f\u0080\u009f\u00ad", api.NoClass},
		{"\u00a0ĀΰΪ\u03a2ϊ⌀中�😀\U0010ffff\ud7ff\ue000", api.Other},
	} {
		for _, c := range x.runes {
			if got := Class(c); got != x.class {
				t.Errorf("A3: Class(%q) = %d, not %d", c, got, x.class)
			}
		}
	}
	for _, c := range []rune{-1, math.MinInt32, 0xD800, 0xDFFF, 0x110000, math.MaxInt32} {
		if got := Class(c); got != api.NoClass {
			t.Errorf("A3: Class(%d) = %d", c, got)
		}
	}
}

func TestDigit(t *testing.T) {
	bases := []int{math.MinInt, -16, -2, -1, 0, 1, 17, 36, math.MaxInt}
	for base := 2; base <= 16; base++ {
		bases = append(bases, base)
	}
	for _, base := range bases {
		for c := rune(-300); c <= 70000; c++ {
			want := -1
			if base >= 2 && base <= 16 && c >= 0 && c < 128 {
				want = strings.Index("0123456789abcdef"[:base], strings.ToLower(string(c)))
			}
			if got := Digit(c, base); got != want {
				t.Fatalf("A4: Digit(%d, %d) = %d, not %d", c, base, got, want)
			}
		}
	}
	for _, x := range []struct {
		c          rune
		base, want int
	}{{'f', 16, 15}, {'F', 16, 15}, {'8', 8, -1}, {'7', 8, 7}, {'A', 11, 10}, {'b', 11, -1}, {'1', 2, 1}, {'2', 2, -1}, {'0', 1, -1}, {'g', 16, -1}, {'g', 17, -1}, {'0', 17, -1}} {
		if got := Digit(x.c, x.base); got != x.want {
			t.Errorf("A4: Digit(%q, %d) = %d, not %d", x.c, x.base, got, x.want)
		}
	}
}

func TestRunKnown(t *testing.T) {
	for _, x := range []struct {
		s               string
		at, class, want int
	}{
		{"+*a", 0, api.Symbol, 2},
		{"+*", 0, api.Symbol, 2},
		{"a", 0, api.Symbol, 0},
		{"xλé→", 0, api.Small, 5},
		{"xλé→", 1, api.Small, 5},
		{"xλé→", 5, api.Symbol, 8},
		{"xλé→y", 3, api.Large, 3},
		{"", 0, api.Small, 0},
		{"ab", 2, api.Small, 2},
		{"ab", 3, api.Small, 0},
		{"ab", -1, api.Small, 0},
		{"ab", math.MinInt, api.Small, 0},
		{"ab", math.MaxInt, api.Small, 0},
		{"中\xff�a", 0, api.Other, 7},
		{"é", 1, api.Other, 2},
		{"é", 1, api.Small, 1},
		{"a\xc3", 0, api.Small, 1},
		{"\x00\x01a", 0, api.NoClass, 2},
		{"ab", 1, -1, 1},
		{"ab", 1, 9, 1},
	} {
		if got := Run(x.s, x.at, x.class); got != x.want {
			t.Errorf("A5: Run(%q, %d, %d) = %d, not %d", x.s, x.at, x.class, got, x.want)
		}
	}
}

func TestRunEverywhere(t *testing.T) {
	for _, s := range texts {
		for at := 0; at <= len(s); at++ {
			for class := -1; class <= api.Other+1; class++ {
				want := at
				for want < len(s) {
					c, size := decode(s[want:])
					if wantedClass(c) != class {
						break
					}
					want += size
				}
				if got := Run(s, at, class); got != want {
					t.Errorf("A5: Run(%q, %d, %d) = %d, not %d", s, at, class, got, want)
				}
			}
		}
	}
}

func TestPiecesMakeTheText(t *testing.T) {
	whole := func(s string) {
		var pieces []string
		for at := 0; at < len(s); {
			c, size := Next(s, at)
			if size < 1 || size > len(s)-at {
				t.Fatalf("A6: Next(%q, %d) has %d bytes", s, at, size)
			}
			if piece := s[at : at+size]; size > 1 && piece != string(c) {
				t.Fatalf("A6: Next(%q, %d) is %d, but its bytes are %q", s, at, c, piece)
			}
			pieces = append(pieces, s[at:at+size])
			at += size
		}
		if got := strings.Join(pieces, ""); got != s {
			t.Fatalf("A6: the pieces of %q make %q", s, got)
		}
	}
	for _, s := range texts {
		whole(s)
	}
	eachEdge(whole)
}

func TestJoinedTextsAreUTF8(t *testing.T) {
	for _, a := range texts {
		for _, b := range texts {
			first, e := Check(a)
			second, f := Check(b)
			at, g := Check(a + b)
			if e == api.OK && f == api.OK && (g != api.OK || at != len(a+b)) {
				t.Errorf("A6: Check(%q) = %d, %d", a+b, at, g)
			}
			if e == api.OK && f != api.OK && (g != f || at != first+second) {
				t.Errorf("A6: Check(%q) = %d, %d", a+b, at, g)
			}
		}
	}
}
