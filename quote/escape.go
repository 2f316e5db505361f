package quote

import (
	"strconv"
	"strings"

	"offside/glyph"
)

// greatest is the greatest number of a character, and broken the one that bytes which are not UTF-8 are read as.
const (
	greatest = 1114111
	broken   = 65533
)

// What stands for no character, and how Plain writes a gap.
const (
	nothing  = `\&`
	plainGap = `\ \`
)

// letters are the escapes of one letter, in the order of their numbers from firstLetter on.
const (
	letters     = "abtnvfr"
	firstLetter = 7
)

// The bytes that may stand behind `^`: the first of them is the number 0.
const (
	firstControl = 64
	lastControl  = 95
)

// The name of the one named number that does not stand among the first ones.
const (
	deleteName   = "DEL"
	deleteNumber = 127
)

// names are the names of the numbers from 0 on.
var names = [...]string{
	"NUL", "SOH", "STX", "ETX", "EOT", "ENQ", "ACK", "BEL", "BS", "HT", "LF", "VT", "FF", "CR", "SO", "SI", "DLE",
	"DC1", "DC2", "DC3", "DC4", "NAK", "SYN", "ETB", "CAN", "EM", "SUB", "ESC", "FS", "GS", "RS", "US", "SP",
}

// escape returns the number of the escape of which s is what follows its `\`, and how many bytes of s belong to it, or 0 and 0 if none begins so. The number may be greater than a character's, but is at most greatest + 1.
func escape(s string) (number, size int) {
	if s == "" {
		return 0, 0
	}
	switch first := s[0]; {
	case strings.IndexByte(letters, first) >= 0:
		return firstLetter + strings.IndexByte(letters, first), 1
	case first == '\\' || first == '"' || first == '\'':
		return int(first), 1
	case first == '^':
		return control(s)
	case first == 'o':
		return lettered(s, 8)
	case first == 'x':
		return lettered(s, 16)
	case isDigit(int(first)):
		return digits(s, 10)
	}
	return named(s)
}

// control reads `^` and the byte behind it.
func control(s string) (number, size int) {
	if len(s) == 1 || s[1] < firstControl || s[1] > lastControl {
		return 0, 0
	}
	return int(s[1]) - firstControl, 2
}

// lettered reads a letter and the digits of its base.
func lettered(s string, base int) (number, size int) {
	number, size = digits(s[1:], base)
	if size == 0 {
		return 0, 0
	}
	return number, size + 1
}

// digits reads all digits of the base that s begins with.
func digits(s string, base int) (number, size int) {
	for i, c := range s {
		digit := glyph.Digit(c, base)
		if digit < 0 {
			return number, i
		}
		number = min(number*base+digit, greatest+1) // however many digits follow, the number stays too great, and an int
	}
	return number, len(s)
}

// named reads the longest name that s begins with.
func named(s string) (number, size int) {
	if strings.HasPrefix(s, deleteName) {
		return deleteNumber, len(deleteName)
	}
	for i, name := range names {
		if len(name) > size && strings.HasPrefix(s, name) {
			number, size = i, len(name)
		}
	}
	return number, size
}

// written returns a character as Write writes it, whatever stands ahead of it.
func written(number int) string {
	switch {
	case isLettered(number):
		return `\` + string(letters[number-firstLetter])
	case isNumbered(number):
		return `\` + strconv.Itoa(number)
	case number == '"' || number == '\\':
		return `\` + string(rune(number))
	}
	return string(rune(number))
}

// isNumbered reports whether Write writes the character as a number.
func isNumbered(number int) bool {
	return number < ' ' && !isLettered(number) || number > '~'
}

func isLettered(number int) bool {
	return number >= firstLetter && number < firstLetter+len(letters)
}

func isDigit(number int) bool {
	return number >= '0' && number <= '9'
}
