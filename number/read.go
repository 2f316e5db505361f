package number

import (
	"offside/api"
	"offside/glyph"
)

// A numeral is the number that a text begins with. Its digits, of the base, begin at begin; of one with the base 10 those before the point end at point, and what stands before the exponent ends at mantissa.
type numeral struct {
	kind, base             int
	begin, point, mantissa int
	end                    int
}

// whole returns the number that s is, or one of NoKind.
func whole(s string) numeral {
	found := read(s)
	if found.end != len(s) {
		return numeral{}
	}
	return found
}

// read returns the longest number that s begins with, or one of NoKind.
func read(s string) numeral {
	if found := readLettered(s); found.kind != api.NoKind {
		return found // always longer than the 0 that it begins with, behind which its letter ends any other number
	}
	point := digitsEnd(s, 0, 10)
	if point == 0 {
		return numeral{}
	}
	mantissa := fractionEnd(s, point)
	end := exponentEnd(s, mantissa)
	kind := api.Int
	if end > point {
		kind = api.Float
	}
	return numeral{kind: kind, base: 10, point: point, mantissa: mantissa, end: end}
}

// readLettered returns the integer with a letter for its base that s begins with, or one of NoKind.
func readLettered(s string) numeral {
	if len(s) < 2 || s[0] != '0' {
		return numeral{}
	}
	base := letterBase(s[1])
	end := digitsEnd(s, 2, base)
	if end == 2 {
		return numeral{}
	}
	return numeral{kind: api.Int, base: base, begin: 2, end: end}
}

// letterBase returns the base that the letter stands for, or 0, which has no digits.
func letterBase(letter byte) int {
	switch letter {
	case 'o', 'O':
		return 8
	case 'x', 'X':
		return 16
	}
	return 0
}

// fractionEnd returns the end of the point at the byte at and the digits behind it, or at if they do not stand there.
func fractionEnd(s string, at int) int {
	if at == len(s) || s[at] != '.' {
		return at
	}
	return endOr(s, at+1, at)
}

// exponentEnd returns the end of the exponent at the byte at, or at if none stands there.
func exponentEnd(s string, at int) int {
	if at == len(s) || s[at] != 'e' && s[at] != 'E' {
		return at
	}
	first := at + 1
	if first < len(s) && (s[first] == '+' || s[first] == '-') {
		first++
	}
	return endOr(s, first, at)
}

// endOr returns the end of the decimal digits at the byte at, or otherwise if none stands there.
func endOr(s string, at, otherwise int) int {
	if end := digitsEnd(s, at, 10); end > at {
		return end
	}
	return otherwise
}

// digitsEnd returns the position behind the digits of the base that stand from the byte at on.
func digitsEnd(s string, at, base int) int {
	for i, c := range s[at:] {
		if glyph.Digit(c, base) < 0 {
			return at + i
		}
	}
	return len(s)
}
