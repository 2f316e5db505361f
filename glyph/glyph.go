// Package glyph decodes the runes of a text, and classifies them: layer 1.
package glyph

import "offside/api"

// Bounds of what a rune can be, and the rune that stands for bytes that encode none.
const (
	firstSurrogate = 0xD800
	lastSurrogate  = 0xDFFF
	largest        = 0x10FFFF
	broken         = 0xFFFD
)

// Next returns the rune at the byte at and the number of its bytes: 65533 and 1 where no encoding begins, 0 and 0 outside the text.
func Next(s string, at int) (rune, int) {
	if at < 0 || at >= len(s) {
		return 0, 0
	}
	var first rune
	for i, c := range s[at:] {
		if i > 0 {
			return first, i // only the second rune's position tells the first one's length
		}
		first = c
	}
	return first, len(s) - at
}

// Check returns the length of s if it is UTF-8, else the first byte that begins no encoding, and ErrUtf.
func Check(s string) (int, api.Errno) {
	for i, c := range s {
		if c != broken {
			continue
		}
		// An encoded 65533 is a rune like any other: its three bytes tell it from a byte that is none.
		if _, size := Next(s, i); size == 1 {
			return i, api.ErrUtf
		}
	}
	return len(s), api.OK
}

// Class returns the class of c, a constant of package api.
func Class(c rune) int {
	switch {
	case isBlank(c):
		return api.Blank
	case isSmall(c):
		return api.Small
	case isLarge(c):
		return api.Large
	case isDecimal(c):
		return api.Digit
	case isSpecial(c):
		return api.Special
	case isQuote(c):
		return api.Quote
	case isSymbol(c):
		return api.Symbol
	case isNothing(c):
		return api.NoClass
	}
	return api.Other
}

// Digit returns the value of c as a digit of a base from 2 to 16, or -1 if it is none.
func Digit(c rune, base int) int {
	value := digitValue(c)
	if base < 2 || base > 16 || value >= base {
		return -1
	}
	return value
}

// Run returns the position behind the runes of the class that stand from the byte at on.
func Run(s string, at, class int) int {
	if at < 0 || at > len(s) {
		return 0
	}
	for i, c := range s[at:] {
		if Class(c) != class {
			return at + i
		}
	}
	return len(s)
}

func within(c, first, last rune) bool {
	return first <= c && c <= last
}

func isBlank(c rune) bool {
	return within(c, '\t', '\r') || c == ' '
}

func isSmall(c rune) bool {
	return within(c, 'a', 'z') || c == '_' || within(c, 223, 246) || within(c, 248, 255) || within(c, 945, 969)
}

func isLarge(c rune) bool {
	return within(c, 'A', 'Z') || within(c, 192, 214) || within(c, 216, 222) || within(c, 913, 937) && c != 930
}

func isDecimal(c rune) bool {
	return within(c, '0', '9')
}

func isSpecial(c rune) bool {
	switch c {
	case '(', ')', ',', ';', '[', ']', '`', '{', '}':
		return true
	}
	return false
}

func isQuote(c rune) bool {
	return c == '"' || c == '\''
}

// isSymbol takes what is left of ASCII's visible runes, so the classes ahead of Symbol have to be asked before it.
func isSymbol(c rune) bool {
	return within(c, '!', '~') || within(c, 161, 191) && c != 173 || c == 215 || c == 247 || within(c, 8592, 8959)
}

// isNothing takes what is left below 160, so the other classes have to be asked before it.
func isNothing(c rune) bool {
	return c < 160 || c == 173 || within(c, firstSurrogate, lastSurrogate) || c > largest
}

func digitValue(c rune) int {
	switch {
	case within(c, '0', '9'):
		return int(c - '0')
	case within(c, 'a', 'f'):
		return int(c-'a') + 10
	case within(c, 'A', 'F'):
		return int(c-'A') + 10
	}
	return -1
}
