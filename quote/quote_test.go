package quote

import (
	"math"
	"math/big"
	"regexp"
	"slices"
	"strconv"
	"strings"
	"testing"
	"unicode/utf8"

	"offside/api"
)

// atoms are what texts are put together of: quotes, what escapes are made of, what stands next to it, blanks, and runes of every class.
var atoms = []string{
	`"`, `'`, `\`, `&`, `^`, "@", "_", "`", "?", "[", "a", "n", "'b", "o", "x", "0", "7", "8", "f", "g", "1114111", "1114112", "10FFFF", "SO", "H", "DEL", " ", "\t", "\n", "é", "λ", "\u00a0", "\u00ad", "\ufffd", "\x7f", "\xff", "\xc3",
}

// fewAtoms are those that longer literals are made of, and escapeAtoms those of longer escapes.
var (
	fewAtoms    = []string{`"`, `'`, `\`, " ", "1", "a", "&"}
	escapeAtoms = []string{`\`, "^", "x", "o", "1", "8", "f", "SO", "H", "&"}
)

// literals are texts each of which is exactly one literal, and its characters.
var literals = []struct {
	s       string
	kind    int
	numbers []int
}{
	{`""`, api.Text, nil},
	{`"a"`, api.Text, []int{97}},
	{`"'"`, api.Text, []int{39}},
	{`"\'\""`, api.Text, []int{39, 34}},
	{`"it's"`, api.Text, []int{105, 116, 39, 115}},
	{`"a b  c"`, api.Text, []int{97, 32, 98, 32, 32, 99}},
	{`"-- {- -}"`, api.Text, []int{45, 45, 32, 123, 45, 32, 45, 125}},
	{`"\a\b\t\n\v\f\r"`, api.Text, []int{7, 8, 9, 10, 11, 12, 13}},
	{`"\\"`, api.Text, []int{92}},
	{`"\\\\"`, api.Text, []int{92, 92}},
	{`"\\\""`, api.Text, []int{92, 34}},
	{`"\\n"`, api.Text, []int{92, 110}},
	{`"\^@\^A\^Z\^[\^\\^]\^^\^_"`, api.Text, []int{0, 1, 26, 27, 28, 29, 30, 31}},
	{`"\^\"`, api.Text, []int{28}},
	{`"\^AB"`, api.Text, []int{1, 66}},
	{`"\0\9\10\097"`, api.Text, []int{0, 9, 10, 97}},
	{`"\o0\o7\o178"`, api.Text, []int{0, 7, 15, 56}},
	{`"\x0\xf\xFg\x41z"`, api.Text, []int{0, 15, 15, 103, 65, 122}},
	{`"\1a\o1a\x1a"`, api.Text, []int{1, 97, 1, 97, 26}},
	{`"\x1\&a\1\&2"`, api.Text, []int{1, 97, 1, 50}},
	{`"\1 2"`, api.Text, []int{1, 32, 50}},
	{`"\1é"`, api.Text, []int{1, 233}},
	{`"\1114110\1114111\o4177776\o4177777\x10fffe\x10FFFF"`, api.Text, []int{1114110, 1114111, 1114110, 1114111, 1114110, 1114111}},
	{`"\00000000000000000000001114111"`, api.Text, []int{1114111}},
	{`"\o00000000000000000000004177777\x0000000000000000000010ffff"`, api.Text, []int{1114111, 1114111}},
	{`"\55295\55296\57343\57344\65533"`, api.Text, []int{55295, 55296, 57343, 57344, 65533}},
	{`"\SOH\SO\&H\x41z"`, api.Text, []int{1, 14, 72, 65, 122}},
	{`"\SO\SOH\SOX\SOHH\SO H"`, api.Text, []int{14, 1, 14, 88, 1, 72, 14, 32, 72}},
	{`"\NULL\DELETE\ESC[0m\SPACE\DC12\EM-"`, api.Text, []int{0, 76, 127, 69, 84, 69, 27, 91, 48, 109, 32, 65, 67, 69, 17, 50, 25, 45}},
	{`"\&"`, api.Text, nil},
	{`"\&\&"`, api.Text, nil},
	{`"a\&b"`, api.Text, []int{97, 98}},
	{`"\&&"`, api.Text, []int{38}},
	{`"\ \"`, api.Text, nil},
	{`"\ \\ \"`, api.Text, nil},
	{"\"a\\\n\t\\b\"", api.Text, []int{97, 98}},
	{"\"\\\t\n\v\f\r \\\"", api.Text, nil},
	{`"\ \n"`, api.Text, []int{110}},
	{`"\nul"`, api.Text, []int{10, 117, 108}},
	{`"\ \\n"`, api.Text, []int{10}},
	{`"\\ \\"`, api.Text, []int{92, 32, 92}},
	{`"\1\ \2"`, api.Text, []int{1, 50}},
	{`"\SO\ \H"`, api.Text, []int{14, 72}},
	{"\"é\u00a0¡λ→中😀\U0010ffff\"", api.Text, []int{233, 160, 161, 955, 8594, 20013, 128512, 1114111}},
	{"\"\ufffd\"", api.Text, []int{65533}},
	{`'a'`, api.Char, []int{97}},
	{`' '`, api.Char, []int{32}},
	{`'"'`, api.Char, []int{34}},
	{`'\"'`, api.Char, []int{34}},
	{`'\''`, api.Char, []int{39}},
	{`'\\'`, api.Char, []int{92}},
	{`'&'`, api.Char, []int{38}},
	{`'\n'`, api.Char, []int{10}},
	{`'\^\'`, api.Char, []int{28}},
	{`'\0'`, api.Char, []int{0}},
	{`'\o17'`, api.Char, []int{15}},
	{`'\x7F'`, api.Char, []int{127}},
	{`'\1114111'`, api.Char, []int{1114111}},
	{`'\SO'`, api.Char, []int{14}},
	{`'\SOH'`, api.Char, []int{1}},
	{`'\DEL'`, api.Char, []int{127}},
	{`'é'`, api.Char, []int{233}},
	{`'😀'`, api.Char, []int{128512}},
	{"'\ufffd'", api.Char, []int{65533}},
}

// notLiterals are texts of which none is exactly one literal, with what Scan returns at their beginning.
var notLiterals = []struct {
	s         string
	kind, end int
	e         api.Errno
}{
	{"", api.NoKind, 0, api.OK},
	{" ", api.NoKind, 0, api.OK},
	{"a", api.NoKind, 0, api.OK},
	{`\`, api.NoKind, 0, api.OK},
	{`\n`, api.NoKind, 0, api.OK},
	{"`a`", api.NoKind, 0, api.OK},
	{"é", api.NoKind, 0, api.OK},
	{"\xff", api.NoKind, 0, api.OK},
	{"\u2018a\u2019", api.NoKind, 0, api.OK},
	{"\u201ca\u201d", api.NoKind, 0, api.OK},
	{` "a"`, api.NoKind, 0, api.OK},
	{`x'a'`, api.NoKind, 0, api.OK},
	{`\"a"`, api.NoKind, 0, api.OK},
	{"\xff\"a\"", api.NoKind, 0, api.OK},

	{`"a" `, api.Text, 3, api.OK},
	{`""""`, api.Text, 2, api.OK},
	{`"a"b"`, api.Text, 3, api.OK},
	{`"a"'b'`, api.Text, 3, api.OK},
	{"\"a\"\xff", api.Text, 3, api.OK},
	{`""\q`, api.Text, 2, api.OK},
	{`'a' b`, api.Char, 3, api.OK},
	{`'a''`, api.Char, 3, api.OK},
	{`'a''b'`, api.Char, 3, api.OK},
	{`'"'"`, api.Char, 3, api.OK},
	{`'\'''`, api.Char, 4, api.OK},

	{`"`, api.NoKind, 1, api.ErrQuote},
	{`"a`, api.NoKind, 2, api.ErrQuote},
	{`"a'`, api.NoKind, 3, api.ErrQuote},
	{`"é`, api.NoKind, 3, api.ErrQuote},
	{`"\"`, api.NoKind, 3, api.ErrQuote},
	{`"\\\"`, api.NoKind, 5, api.ErrQuote},
	{`"\n`, api.NoKind, 3, api.ErrQuote},
	{`"\12`, api.NoKind, 4, api.ErrQuote},
	{`"\x1F`, api.NoKind, 5, api.ErrQuote},
	{`"\SO`, api.NoKind, 4, api.ErrQuote},
	{`"\&`, api.NoKind, 3, api.ErrQuote},
	{`"\ \`, api.NoKind, 4, api.ErrQuote},
	{`"\^"`, api.NoKind, 1, api.ErrEscape},
	{"\"a\nb\"", api.NoKind, 2, api.ErrQuote},
	{"\"\t\"", api.NoKind, 1, api.ErrQuote},
	{"\"\v\"", api.NoKind, 1, api.ErrQuote},
	{"\"\x00\"", api.NoKind, 1, api.ErrQuote},
	{"\"\x7f\"", api.NoKind, 1, api.ErrQuote},
	{"\"\u0080\"", api.NoKind, 1, api.ErrQuote},
	{"\"é\u009f\"", api.NoKind, 3, api.ErrQuote},
	{"\"\u00ad\"", api.NoKind, 1, api.ErrQuote},
	{"\"\xff\"", api.NoKind, 1, api.ErrQuote},
	{"\"a\x80\"", api.NoKind, 2, api.ErrQuote},
	{"\"\xc3\"", api.NoKind, 1, api.ErrQuote},
	{"\"é\xc3", api.NoKind, 3, api.ErrQuote},
	{"\"\xef\xbf\"", api.NoKind, 1, api.ErrQuote},
	{"\"\xed\xa0\x80\"", api.NoKind, 1, api.ErrQuote},
	{"\"\xf4\x90\x80\x80\"", api.NoKind, 1, api.ErrQuote},
	{"\"\xc0\xa2\"", api.NoKind, 1, api.ErrQuote},

	{`"\`, api.NoKind, 1, api.ErrEscape},
	{`"a\`, api.NoKind, 2, api.ErrEscape},
	{`"\\\`, api.NoKind, 3, api.ErrEscape},
	{`"a\q"`, api.NoKind, 2, api.ErrEscape},
	{`"é\q"`, api.NoKind, 3, api.ErrEscape},
	{`"\A"`, api.NoKind, 1, api.ErrEscape},
	{`"\N"`, api.NoKind, 1, api.ErrEscape},
	{`"\sOH"`, api.NoKind, 1, api.ErrEscape},
	{`"\so"`, api.NoKind, 1, api.ErrEscape},
	{`"\S"`, api.NoKind, 1, api.ErrEscape},
	{`"\DC"`, api.NoKind, 1, api.ErrEscape},
	{`"\DC0"`, api.NoKind, 1, api.ErrEscape},
	{`"\DC5"`, api.NoKind, 1, api.ErrEscape},
	{`"\DE"`, api.NoKind, 1, api.ErrEscape},
	{`"\E"`, api.NoKind, 1, api.ErrEscape},
	{`"\NU`, api.NoKind, 1, api.ErrEscape},
	{`"\x"`, api.NoKind, 1, api.ErrEscape},
	{`"\x`, api.NoKind, 1, api.ErrEscape},
	{`"\xg"`, api.NoKind, 1, api.ErrEscape},
	{`"\x 1"`, api.NoKind, 1, api.ErrEscape},
	{`"\X41"`, api.NoKind, 1, api.ErrEscape},
	{`"\o"`, api.NoKind, 1, api.ErrEscape},
	{`"\o`, api.NoKind, 1, api.ErrEscape},
	{`"\o8"`, api.NoKind, 1, api.ErrEscape},
	{`"\O17"`, api.NoKind, 1, api.ErrEscape},
	{`"\-1"`, api.NoKind, 1, api.ErrEscape},
	{`"\+1"`, api.NoKind, 1, api.ErrEscape},
	{`"\é"`, api.NoKind, 1, api.ErrEscape},
	{`"\１"`, api.NoKind, 1, api.ErrEscape},
	{"\"\\\xff\"", api.NoKind, 1, api.ErrEscape},
	{"\"\\\x00\"", api.NoKind, 1, api.ErrEscape},
	{"\"\\\u00a0\\\"", api.NoKind, 1, api.ErrEscape},
	{`"\^`, api.NoKind, 1, api.ErrEscape},
	{`"\^a"`, api.NoKind, 1, api.ErrEscape},
	{`"\^?"`, api.NoKind, 1, api.ErrEscape},
	{`"\^é"`, api.NoKind, 1, api.ErrEscape},
	{`"\1114112"`, api.NoKind, 1, api.ErrEscape},
	{`"\o4200000"`, api.NoKind, 1, api.ErrEscape},
	{`"\x110000"`, api.NoKind, 1, api.ErrEscape},
	{`"\11141110"`, api.NoKind, 1, api.ErrEscape},
	{`"\001114112"`, api.NoKind, 1, api.ErrEscape},
	{`"ab\9223372036854775807"`, api.NoKind, 3, api.ErrEscape},
	{`"ab\9223372036854775808"`, api.NoKind, 3, api.ErrEscape},
	{`"\18446744073709551681"`, api.NoKind, 1, api.ErrEscape},
	{`"\o2000000000000000000101"`, api.NoKind, 1, api.ErrEscape},
	{`"\x10000000000000041"`, api.NoKind, 1, api.ErrEscape},
	{`"\x100000000000000000000000000000041"`, api.NoKind, 1, api.ErrEscape},
	{`"\1114112`, api.NoKind, 1, api.ErrEscape},
	{`"\ "`, api.NoKind, 1, api.ErrEscape},
	{`"\ `, api.NoKind, 1, api.ErrEscape},
	{`"\ x"`, api.NoKind, 1, api.ErrEscape},
	{`"\ x\"`, api.NoKind, 1, api.ErrEscape},
	{"\"a\\\n\"", api.NoKind, 2, api.ErrEscape},
	{"\"a\\\n\n", api.NoKind, 2, api.ErrEscape},
	{"\"\\ \u00a0\\\"", api.NoKind, 1, api.ErrEscape},
	{"\"\\ \x00\\\"", api.NoKind, 1, api.ErrEscape},
	{"\"\\ \xff\\\"", api.NoKind, 1, api.ErrEscape},
	{`"\ \\ "`, api.NoKind, 4, api.ErrEscape},
	{`"\ \\"`, api.NoKind, 6, api.ErrQuote},

	{`'`, api.NoKind, 1, api.ErrQuote},
	{`''`, api.NoKind, 1, api.ErrQuote},
	{`'''`, api.NoKind, 1, api.ErrQuote},
	{`''a'`, api.NoKind, 1, api.ErrQuote},
	{`'a`, api.NoKind, 2, api.ErrQuote},
	{`'a"`, api.NoKind, 2, api.ErrQuote},
	{`'ab'`, api.NoKind, 2, api.ErrQuote},
	{`'éa'`, api.NoKind, 3, api.ErrQuote},
	{`'a `, api.NoKind, 2, api.ErrQuote},
	{`'a '`, api.NoKind, 2, api.ErrQuote},
	{"'a\xff", api.NoKind, 2, api.ErrQuote},
	{"'a\n'", api.NoKind, 2, api.ErrQuote},
	{`'\'`, api.NoKind, 3, api.ErrQuote},
	{`'\\\'`, api.NoKind, 3, api.ErrQuote},
	{`'\nn'`, api.NoKind, 3, api.ErrQuote},
	{`'\12 '`, api.NoKind, 4, api.ErrQuote},
	{`'\12\13'`, api.NoKind, 4, api.ErrQuote},
	{`'\SOX'`, api.NoKind, 4, api.ErrQuote},
	{`'\SOHH'`, api.NoKind, 5, api.ErrQuote},
	{`'\x41`, api.NoKind, 5, api.ErrQuote},
	{`'\o18'`, api.NoKind, 4, api.ErrQuote},
	{`'a\n'`, api.NoKind, 2, api.ErrQuote},
	{`'a\&'`, api.NoKind, 2, api.ErrQuote},
	{`'a\ \'`, api.NoKind, 2, api.ErrQuote},
	{`'a\q'`, api.NoKind, 2, api.ErrQuote},
	{`'\&'`, api.NoKind, 1, api.ErrEscape},
	{`'\&a'`, api.NoKind, 1, api.ErrEscape},
	{`'\&`, api.NoKind, 1, api.ErrEscape},
	{`'\ \'`, api.NoKind, 1, api.ErrEscape},
	{`'\ \a'`, api.NoKind, 1, api.ErrEscape},
	{"'\\\n\t\\a'", api.NoKind, 1, api.ErrEscape},
	{`'\ '`, api.NoKind, 1, api.ErrEscape},
	{`'\ `, api.NoKind, 1, api.ErrEscape},
	{`'\`, api.NoKind, 1, api.ErrEscape},
	{`'\q'`, api.NoKind, 1, api.ErrEscape},
	{`'\x'`, api.NoKind, 1, api.ErrEscape},
	{`'\o8'`, api.NoKind, 1, api.ErrEscape},
	{`'\^'`, api.NoKind, 1, api.ErrEscape},
	{`'\1114112'`, api.NoKind, 1, api.ErrEscape},
	{`'\x10000000000000041'`, api.NoKind, 1, api.ErrEscape},
	{"'\t'", api.NoKind, 1, api.ErrQuote},
	{"'\n'", api.NoKind, 1, api.ErrQuote},
	{"'\x00'", api.NoKind, 1, api.ErrQuote},
	{"'\x7f'", api.NoKind, 1, api.ErrQuote},
	{"'\u00ad'", api.NoKind, 1, api.ErrQuote},
	{"'\xff'", api.NoKind, 1, api.ErrQuote},
	{"'\xc3'", api.NoKind, 1, api.ErrQuote},

	{"\"\\q\n\"", api.NoKind, 1, api.ErrEscape},
	{"\"\n\\q\"", api.NoKind, 1, api.ErrQuote},
	{"\"\\1114112\n\xff", api.NoKind, 1, api.ErrEscape},
	{"\"\xff\\1114112\n", api.NoKind, 1, api.ErrQuote},
	{"\"\\ \n\xff\"", api.NoKind, 1, api.ErrEscape},
	{`"\q\1114112"`, api.NoKind, 1, api.ErrEscape},
	{`"a\n\q\x"`, api.NoKind, 4, api.ErrEscape},
	{`"\1\&\q`, api.NoKind, 5, api.ErrEscape},
	{`'\qa`, api.NoKind, 1, api.ErrEscape},
	{`'\&\q`, api.NoKind, 1, api.ErrEscape},
}

// The chapter's words as patterns. (What is not UTF-8 is cleaned away ahead of them.)
var (
	textRune = regexp.MustCompile(`\A[ !#-\[\]-~\x{a0}-\x{ac}\x{ae}-\x{10ffff}]`)
	charRune = regexp.MustCompile(`\A[ -&(-\[\]-~\x{a0}-\x{ac}\x{ae}-\x{10ffff}]`)
	nothings = regexp.MustCompile(`\A\\(?:&|[\t-\r ]+\\)`)
	numerals = regexp.MustCompile(`\A\\([0-9]+|o[0-7]+|x[0-9a-fA-F]+)`)
	others   = longest(`\A\\(?:[abfnrtv\\"']|\^[@-_]|NUL|SOH|STX|ETX|EOT|ENQ|ACK|BEL|BS|HT|LF|VT|FF|CR|SO|SI|DLE|DC1|DC2|DC3|DC4|NAK|SYN|ETB|CAN|EM|SUB|ESC|FS|GS|RS|US|SP|DEL)`)
)

func longest(pattern string) *regexp.Regexp {
	r := regexp.MustCompile(pattern)
	r.Longest()
	return r
}

// escapeNumbers are the numbers of the escapes of one letter, and of the names.
var escapeNumbers = map[string]int{
	"a": 7, "b": 8, "t": 9, "n": 10, "v": 11, "f": 12, "r": 13, `\`: 92, `"`: 34, `'`: 39,
	"NUL": 0, "SOH": 1, "STX": 2, "ETX": 3, "EOT": 4, "ENQ": 5, "ACK": 6, "BEL": 7, "BS": 8, "HT": 9, "LF": 10, "VT": 11, "FF": 12, "CR": 13, "SO": 14, "SI": 15, "DLE": 16,
	"DC1": 17, "DC2": 18, "DC3": 19, "DC4": 20, "NAK": 21, "SYN": 22, "ETB": 23, "CAN": 24, "EM": 25, "SUB": 26, "ESC": 27, "FS": 28, "GS": 29, "RS": 30, "US": 31, "SP": 32, "DEL": 127,
}

// A part is what the second reading finds between quotes. Its number is -1 if it stands for no character.
type part struct {
	text   string
	number int
}

// cleaned is s with 0, which may stand in no literal, for each byte that is not UTF-8.
func cleaned(s string) string {
	out := []byte(s)
	for i := 0; i < len(s); {
		c, size := utf8.DecodeRuneInString(s[i:])
		if c == utf8.RuneError && size == 1 {
			out[i] = 0
		}
		i += size
	}
	return string(out)
}

// wantedNumber is the value of an escape, or greater than any character's.
func wantedNumber(numeral string) int {
	base, digits := 10, numeral
	switch numeral[0] {
	case 'o':
		base, digits = 8, numeral[1:]
	case 'x':
		base, digits = 16, numeral[1:]
	}
	n, ok := new(big.Int).SetString(digits, base)
	if !ok {
		panic("no number: " + numeral)
	}
	if !n.IsInt64() {
		return math.MaxInt
	}
	return int(n.Int64())
}

// wantedPart is the part at the head of s, and the error if none is there.
func wantedPart(s string, kind int) (part, api.Errno) {
	plain := textRune
	if kind == api.Char {
		plain = charRune
	}
	if found := plain.FindString(s); found != "" {
		c, _ := utf8.DecodeRuneInString(found)
		return part{found, int(c)}, api.OK
	}
	if !strings.HasPrefix(s, `\`) {
		return part{}, api.ErrQuote
	}
	if found := nothings.FindString(s); found != "" && kind == api.Text {
		return part{found, -1}, api.OK
	}
	if found := numerals.FindString(s); found != "" {
		if n := wantedNumber(found[1:]); n <= 1114111 {
			return part{found, n}, api.OK
		}
		return part{}, api.ErrEscape
	}
	found := others.FindString(s)
	switch {
	case found == "":
		return part{}, api.ErrEscape
	case found[1] == '^':
		return part{found, int(found[2]) - 64}, api.OK
	}
	return part{found, escapeNumbers[found[1:]]}, api.OK
}

// wanted is a second reading of the literal at the byte at: its parts, and what Scan returns.
func wanted(s string, at int) (parts []part, kind, end int, e api.Errno) {
	if at < 0 || at >= len(s) || s[at] != '"' && s[at] != '\'' {
		return nil, api.NoKind, 0, api.OK
	}
	quote := s[at : at+1]
	kind = api.Text
	if quote == "'" {
		kind = api.Char
	}
	s = cleaned(s)
	for i := at + 1; ; {
		full := kind == api.Text || len(parts) == 1
		if full && strings.HasPrefix(s[i:], quote) {
			return parts, kind, i + 1, api.OK
		}
		if kind == api.Char && full {
			return nil, api.NoKind, i, api.ErrQuote
		}
		p, e := wantedPart(s[i:], kind)
		if e != api.OK {
			return nil, api.NoKind, i, e
		}
		parts = append(parts, p)
		i += len(p.text)
	}
}

// wantedWhole is the parts of the literal that s is, or the error of Runes and Plain.
func wantedWhole(s string) ([]part, api.Errno) {
	parts, kind, end, e := wanted(s, 0)
	if e == api.OK && (kind == api.NoKind || end < len(s)) {
		return nil, api.ErrQuote
	}
	return parts, e
}

func wantedRunes(s string) ([]int, api.Errno) {
	parts, e := wantedWhole(s)
	var numbers []int
	for _, p := range parts {
		if p.number >= 0 {
			numbers = append(numbers, p.number)
		}
	}
	return numbers, e
}

func wantedPlain(s string) (string, api.Errno) {
	parts, e := wantedWhole(s)
	if e != api.OK {
		return "", e
	}
	out := s[:1]
	for _, p := range parts {
		if p.number < 0 && p.text != `\&` {
			p.text = `\ \`
		}
		out += p.text
	}
	return out + s[:1], api.OK
}

// wantedWritten is how a number is written, and whether in digits.
func wantedWritten(n int) (string, bool) {
	switch n {
	case 7, 8, 9, 10, 11, 12, 13:
		return []string{`\a`, `\b`, `\t`, `\n`, `\v`, `\f`, `\r`}[n-7], false
	case 34:
		return `\"`, false
	case 92:
		return `\\`, false
	}
	if n < 32 || n > 126 {
		return `\` + strconv.Itoa(n), true
	}
	return string([]byte{byte(n)}), false
}

func wantedWrite(l []int) string {
	out, digits := `"`, false
	for _, n := range l {
		text, again := wantedWritten(n)
		if digits && strings.Contains("0123456789", text) {
			out += `\&`
		}
		out, digits = out+text, again
	}
	return out + `"`
}

// eachText calls f with the texts of the tables, and, behind a quote of each kind, with texts of up to three atoms, or more of the few, with the quote again and without it; a text at which the test has failed is the last one.
func eachText(t *testing.T, check func(s string)) {
	t.Helper()
	f := func(s string) {
		check(s)
		if t.Failed() {
			t.FailNow()
		}
	}
	for _, x := range literals {
		f(x.s)
	}
	for _, x := range notLiterals {
		f(x.s)
	}
	for _, quote := range []string{`"`, `'`} {
		f(quote)
		quoted := func(s string) {
			f(quote + s)
			f(quote + s + quote)
		}
		eachJoined(atoms, 3, quoted)
		eachJoined(fewAtoms, 6, quoted)
		eachJoined(escapeAtoms, 4, quoted)
	}
}

func eachJoined(parts []string, most int, f func(s string)) {
	level := []string{""}
	for range most {
		var next []string
		for _, s := range level {
			for _, p := range parts {
				f(s + p)
				next = append(next, s+p)
			}
		}
		level = next
	}
}

func checkScan(t *testing.T, s string, at, kind, end int, e api.Errno) {
	t.Helper()
	if gotKind, gotEnd, gotE := Scan(s, at); gotKind != kind || gotEnd != end || gotE != e {
		t.Errorf("E1: Scan(%q, %d) = %d, %d, %d, not %d, %d, %d", s, at, gotKind, gotEnd, gotE, kind, end, e)
	}
}

func checkRunes(t *testing.T, s string, numbers []int, e api.Errno) {
	t.Helper()
	if got, gotE := Runes(s); !slices.Equal(got, numbers) || gotE != e {
		t.Errorf("E2: Runes(%q) = %v, %d, not %v, %d", s, got, gotE, numbers, e)
	}
}

func checkWrite(t *testing.T, l []int, s string, e api.Errno) {
	t.Helper()
	if got, gotE := Write(l); got != s || gotE != e {
		t.Errorf("E3: Write(%v) = %q, %d, not %q, %d", l, got, gotE, s, e)
	}
}

func checkPlain(t *testing.T, s, plain string, e api.Errno) {
	t.Helper()
	if got, gotE := Plain(s); got != plain || gotE != e {
		t.Errorf("E4: Plain(%q) = %q, %d, not %q, %d", s, got, gotE, plain, e)
	}
}

func TestScanKnown(t *testing.T) {
	for _, x := range literals {
		checkScan(t, x.s, 0, x.kind, len(x.s), api.OK)
	}
	for _, x := range notLiterals {
		checkScan(t, x.s, 0, x.kind, x.end, x.e)
	}
}

// TestScanWithin has each text of the tables between others: what stands ahead moves the positions, and nothing else.
func TestScanWithin(t *testing.T) {
	for _, ahead := range []string{"x ", "é", "\xff\"", `\`, `''`, "\"\n"} {
		for _, x := range literals {
			for _, behind := range []string{"", " ", `"`, `'`, `\`, "a", "\xff", "\n"} {
				checkScan(t, ahead+x.s+behind, len(ahead), x.kind, len(ahead+x.s), api.OK)
			}
		}
		for _, x := range notLiterals {
			end := x.end
			if end > 0 {
				end += len(ahead)
			}
			checkScan(t, ahead+x.s, len(ahead), x.kind, end, x.e)
		}
	}
}

func TestScanOutside(t *testing.T) {
	texts := []string{"", `"`, `'`, `"a"`, `'a'`, `a"`, `'a`, "\"\xff", `""""`}
	for _, s := range texts {
		for _, at := range []int{-1, -2, math.MinInt, len(s), len(s) + 1, math.MaxInt} {
			checkScan(t, s, at, api.NoKind, 0, api.OK)
		}
	}
	checkScan(t, `a"`, 1, api.NoKind, 2, api.ErrQuote)
	checkScan(t, `"a"`, 1, api.NoKind, 0, api.OK)
	checkScan(t, `"a"`, 2, api.NoKind, 3, api.ErrQuote)
	checkScan(t, "é'é'", 1, api.NoKind, 0, api.OK)
	checkScan(t, "é'é'", 2, api.Char, 6, api.OK)
	checkScan(t, "é'é'", 3, api.NoKind, 0, api.OK)
}

// mayBeWritten tells by the numbers alone which runes stand for themselves.
func mayBeWritten(c, quote rune) bool {
	switch {
	case c == quote, c == '\\', c == 173:
		return false
	}
	return c >= 32 && c <= 126 || c >= 160
}

func TestEveryRune(t *testing.T) {
	for c := rune(0); c <= 0x10FFFF; c++ {
		if !utf8.ValidRune(c) || c == '\\' {
			continue
		}
		for _, quote := range []string{`"`, `'`} {
			s := quote + string(c) + quote
			kind, end, e := api.Text, len(s), api.OK
			if quote == "'" {
				kind = api.Char
			}
			switch {
			case c == '"' && kind == api.Text:
				end = 2
			case !mayBeWritten(c, rune(quote[0])):
				kind, end, e = api.NoKind, 1, api.ErrQuote
			}
			checkScan(t, s, 0, kind, end, e)
			if e == api.OK && end == len(s) {
				checkRunes(t, s, []int{int(c)}, api.OK)
				checkPlain(t, s, s, api.OK)
			}
		}
		if t.Failed() {
			return
		}
	}
}

// TestEveryByteBehind has each byte behind a `\` and behind `\^`, in literals of both kinds.
func TestEveryByteBehind(t *testing.T) {
	simple := map[byte]int{'a': 7, 'b': 8, 't': 9, 'n': 10, 'v': 11, 'f': 12, 'r': 13, '\\': 92, '"': 34, '\'': 39}
	for b := range 256 {
		for _, quote := range []string{`"`, `'`} {
			s := quote + `\` + string([]byte{byte(b)}) + quote
			n, ok := simple[byte(b)]
			switch {
			case b >= '0' && b <= '9':
				n, ok = b-'0', true
			case b == '&' && quote == `"`:
				checkRunes(t, s, nil, api.OK)
				continue
			}
			checkEscape(t, s, n, ok)
			checkEscape(t, quote+`\^`+string([]byte{byte(b)})+quote, b-64, b >= 64 && b <= 95)
		}
	}
}

// checkEscape holds s, quotes with one escape between, to the number n, or to an error at the escape if there is none.
func checkEscape(t *testing.T, s string, n int, ok bool) {
	t.Helper()
	if !ok {
		checkScan(t, s, 0, api.NoKind, 1, api.ErrEscape)
		checkRunes(t, s, nil, api.ErrEscape)
		checkPlain(t, s, "", api.ErrEscape)
		return
	}
	kind := api.Text
	if s[0] == '\'' {
		kind = api.Char
	}
	checkScan(t, s, 0, kind, len(s), api.OK)
	checkRunes(t, s, []int{n}, api.OK)
	checkPlain(t, s, s, api.OK)
}

func TestNames(t *testing.T) {
	for name, n := range escapeNumbers {
		for _, quote := range []string{`"`, `'`} {
			checkEscape(t, quote+`\`+name+quote, n, true)
		}
		if len(name) < 2 {
			continue
		}
		for _, behind := range []string{"0", "9", "A", "a", "S", " ", "^", "&", "é"} {
			c, _ := utf8.DecodeRuneInString(behind)
			checkRunes(t, `"\`+name+behind+`"`, []int{n, int(c)}, api.OK)
			checkScan(t, `'\`+name+behind+`'`, 0, api.NoKind, len(name)+2, api.ErrQuote)
		}
		for other, m := range escapeNumbers {
			checkRunes(t, `"\`+name+`\`+other+`"`, []int{n, m}, api.OK)
		}
		lower := `"\` + strings.ToLower(name[:1]) + name[1:] + `"`
		if _, ok := escapeNumbers[lower[2:3]]; !ok {
			checkScan(t, lower, 0, api.NoKind, 1, api.ErrEscape)
		}
		for short := range len(name) {
			if _, ok := escapeNumbers[name[:short]]; !ok {
				checkScan(t, `"\`+name[:short]+`-"`, 0, api.NoKind, 1, api.ErrEscape)
			}
		}
	}
	checkRunes(t, `"\SOH"`, []int{1}, api.OK)
	checkRunes(t, `"\SO\&H"`, []int{14, 72}, api.OK)
	checkRunes(t, `"\SO\ \H"`, []int{14, 72}, api.OK)
	checkRunes(t, `"\SOHO"`, []int{1, 79}, api.OK)
	checkRunes(t, `"\SOh"`, []int{14, 104}, api.OK)
}

// TestNumberEdges has numbers around the greatest one, and around the powers of two at which numbers of some size wrap round, with zeros ahead or not.
func TestNumberEdges(t *testing.T) {
	centers := []*big.Int{big.NewInt(1114111), big.NewInt(11141110), big.NewInt(99999999)}
	for _, power := range []uint{3, 7, 8, 15, 16, 20, 21, 31, 32, 62, 63, 64, 65, 66, 67, 68, 96, 127, 128, 4096} {
		centers = append(centers, new(big.Int).Lsh(big.NewInt(1), power))
	}
	greatest := big.NewInt(1114111)
	for _, center := range centers {
		for by := int64(-3); by <= 70; by++ {
			n := new(big.Int).Add(center, big.NewInt(by))
			ok := n.Cmp(greatest) <= 0
			for _, zeros := range []string{"", "0", strings.Repeat("0", 40)} {
				for _, digits := range []string{zeros + n.Text(10), "o" + zeros + n.Text(8), "x" + zeros + n.Text(16), "x" + zeros + strings.ToUpper(n.Text(16))} {
					checkEscape(t, `"\`+digits+`"`, int(n.Int64()), ok)
					checkEscape(t, `'\`+digits+`'`, int(n.Int64()), ok)
				}
			}
		}
	}
}

// TestDigits has each byte as the first and as the second one behind the letter of a base, or without a letter.
func TestDigits(t *testing.T) {
	for _, x := range []struct{ letter, digits string }{{"", "0123456789"}, {"o", "01234567"}, {"x", "0123456789abcdefABCDEF"}} {
		for b := range 256 {
			digit := string([]byte{byte(b)})
			is := strings.Contains(x.digits, digit)
			if is {
				n := wantedNumber(x.letter + digit)
				checkEscape(t, `"\`+x.letter+digit+`"`, n, true)
				checkRunes(t, `"\`+x.letter+"1"+digit+`"`, []int{wantedNumber(x.letter + "1" + digit)}, api.OK)
				continue
			}
			if x.letter != "" {
				checkScan(t, `"\`+x.letter+digit+`"`, 0, api.NoKind, 1, api.ErrEscape)
			}
			if mayBeWritten(rune(b), '"') && b < 128 {
				checkRunes(t, `"\`+x.letter+"1"+digit+`"`, []int{1, b}, api.OK)
			}
		}
	}
}

// TestGaps has gaps of every blank and of every two, and what is none: with nothing between, with another rune, or without an end.
func TestGaps(t *testing.T) {
	blanks := []string{"\t", "\n", "\v", "\f", "\r", " "}
	gaps := slices.Concat(blanks, []string{"\r\n", strings.Repeat(" ", 100), "\n\n\n\t  ", strings.Join(blanks, "")})
	eachJoined(blanks, 3, func(s string) { gaps = append(gaps, s) })
	for _, blank := range gaps {
		g := `\` + blank + `\`
		checkRunes(t, `"`+g+`"`, nil, api.OK)
		checkPlain(t, `"`+g+`"`, `"\ \"`, api.OK)
		checkRunes(t, `"a`+g+`b`+g+g+`c"`, []int{97, 98, 99}, api.OK)
		checkPlain(t, `"a`+g+`b`+g+g+`c"`, `"a\ \b\ \\ \c"`, api.OK)
		checkPlain(t, `"\\`+g+`\n\\`+`"`, `"\\\ \\n\\"`, api.OK)
		checkPlain(t, `"\^\`+g+`\1`+g+`2\SO`+g+`H\&`+`"`, `"\^\\ \\1\ \2\SO\ \H\&"`, api.OK)
		checkRunes(t, `"\^\`+g+`\1`+g+`2\SO`+g+`H\&`+`"`, []int{28, 1, 50, 14, 72}, api.OK)
		for _, s := range []string{`'` + g + `'`, `'` + g + `a'`, `"` + g[:len(g)-1], `"` + g[:len(g)-1] + `"`, `"` + g[:len(g)-1] + `a\"`, `"` + g[:len(g)-1] + "\u00a0\\\"", `"` + g[:len(g)-1] + "\x00\\\"", `"` + g[:len(g)-1] + "\x1f\\\"", `"` + g[:len(g)-1] + "\xff\\\""} {
			checkScan(t, s, 0, api.NoKind, 1, api.ErrEscape)
			checkRunes(t, s, nil, api.ErrEscape)
			checkPlain(t, s, "", api.ErrEscape)
		}
	}
	for b := range 256 {
		for _, behind := range []string{`\"`, `\ \"`, ` \"`} {
			s := `"\` + string([]byte{byte(b)}) + behind
			plain, e := wantedPlain(s)
			checkPlain(t, s, plain, e)
		}
	}
}

func TestScanEverywhere(t *testing.T) {
	eachText(t, func(s string) {
		for at := range len(s) {
			_, kind, end, e := wanted(s, at)
			checkScan(t, s, at, kind, end, e)
		}
	})
}

// TestErrorIsTheFirst holds that what stands ahead of an error has none: a quote there ends a literal.
func TestErrorIsTheFirst(t *testing.T) {
	eachText(t, func(s string) {
		_, end, e := Scan(s, 0)
		if e == api.OK {
			return
		}
		closed := s[:end] + s[:1]
		if s[0] == '\'' && end == 1 {
			closed = `'a'` // no character stands ahead of the error
		}
		if kind, all, again := Scan(closed, 0); kind == api.NoKind || all != len(closed) || again != api.OK {
			t.Errorf("E1: Scan(%q, 0) = %d, %d, but that of %q is %d, %d", s, end, e, closed, all, again)
		}
	})
}

func TestFoundLiteralsAreLiterals(t *testing.T) {
	eachText(t, func(s string) {
		for at := range len(s) {
			kind, end, e := Scan(s, at)
			if kind == api.NoKind || e != api.OK {
				continue
			}
			checkScan(t, s[at:end], 0, kind, end-at, api.OK)
			numbers, e := Runes(s[at:end])
			if e != api.OK || kind == api.Char && len(numbers) != 1 {
				t.Errorf("E2: Runes(%q) = %v, %d", s[at:end], numbers, e)
			}
		}
	})
}

func TestRunesKnown(t *testing.T) {
	for _, x := range literals {
		checkRunes(t, x.s, x.numbers, api.OK)
	}
}

// TestNoLiteral asks for the contents of what is not one literal.
func TestNoLiteral(t *testing.T) {
	for _, x := range notLiterals {
		want := x.e
		if want == api.OK {
			want = api.ErrQuote
		}
		checkRunes(t, x.s, nil, want)
		checkPlain(t, x.s, "", want)
	}
	for _, x := range literals {
		for _, other := range []string{" ", "\n", "a", `"`, `'`, `\`, "\xff", "\x00"} {
			checkRunes(t, x.s+other, nil, api.ErrQuote)
			checkPlain(t, x.s+other, "", api.ErrQuote)
		}
		for _, other := range []string{" ", "\n", "a", `\`, "\xff", "\x00", "\ufeff"} {
			checkRunes(t, other+x.s, nil, api.ErrQuote)
			checkPlain(t, other+x.s, "", api.ErrQuote)
		}
		for _, y := range literals {
			checkRunes(t, x.s+y.s, nil, api.ErrQuote)
			checkPlain(t, x.s+y.s, "", api.ErrQuote)
		}
	}
}

func TestRunesEverywhere(t *testing.T) {
	eachText(t, func(s string) {
		numbers, e := wantedRunes(s)
		checkRunes(t, s, numbers, e)
	})
}

func TestWriteKnown(t *testing.T) {
	for _, x := range []struct {
		l []int
		s string
	}{
		{nil, `""`},
		{[]int{}, `""`},
		{[]int{97}, `"a"`},
		{[]int{7, 200, 49}, `"\a\200\&1"`},
		{[]int{7, 8, 9, 10, 11, 12, 13}, `"\a\b\t\n\v\f\r"`},
		{[]int{6, 14}, `"\6\14"`},
		{[]int{0, 1, 31, 32}, `"\0\1\31 "`},
		{[]int{126, 127, 128}, `"~\127\128"`},
		{[]int{33, 34, 35}, `"!\"#"`},
		{[]int{38, 39, 40}, `"&'("`},
		{[]int{91, 92, 93}, `"[\\]"`},
		{[]int{92, 110}, `"\\n"`},
		{[]int{92, 49}, `"\\1"`},
		{[]int{34, 49}, `"\"1"`},
		{[]int{10, 49}, `"\n1"`},
		{[]int{13, 48}, `"\r0"`},
		{[]int{1, 48}, `"\1\&0"`},
		{[]int{1, 57}, `"\1\&9"`},
		{[]int{1, 47}, `"\1/"`},
		{[]int{1, 58}, `"\1:"`},
		{[]int{1, 97}, `"\1a"`},
		{[]int{14, 72}, `"\14H"`},
		{[]int{1, 50, 51}, `"\1\&23"`},
		{[]int{1, 2, 51}, `"\1\2\&3"`},
		{[]int{1, 97, 51}, `"\1a3"`},
		{[]int{1, 10, 51}, `"\1\n3"`},
		{[]int{49, 50}, `"12"`},
		{[]int{1, 38}, `"\1&"`},
		{[]int{160, 173, 233, 955, 8594}, `"\160\173\233\955\8594"`},
		{[]int{1632, 49, 1633}, `"\1632\&1\1633"`},
		{[]int{55295, 55296, 57343, 57344}, `"\55295\55296\57343\57344"`},
		{[]int{65533, 65535, 65536, 1114110, 1114111}, `"\65533\65535\65536\1114110\1114111"`},
		{[]int{1114111, 57}, `"\1114111\&9"`},
	} {
		checkWrite(t, x.l, x.s, api.OK)
	}
}

func TestWriteWrong(t *testing.T) {
	for _, n := range []int{-1, -2, -128, math.MinInt, math.MinInt + 97, 1114112, 1114113, 1 << 21, 1<<32 + 97, 1<<62 + 97, math.MaxInt} {
		for _, l := range [][]int{{n}, {n, 97}, {97, n}, {97, n, 98}, {1, 49, n}, {n, n}, {1, n, 49}} {
			checkWrite(t, l, "", api.ErrArg)
		}
	}
	checkWrite(t, []int{0, 1114111}, `"\0\1114111"`, api.OK)
}

func TestWriteEveryNumber(t *testing.T) {
	for n := range 1114112 {
		l := []int{n, '0', n, '9', '1', n, '/', n}
		s, e := Write(l)
		if s != wantedWrite(l) || e != api.OK {
			t.Fatalf("E3: Write(%v) = %q, %d, not %q", l, s, e, wantedWrite(l))
		}
		if again, e := Runes(s); !slices.Equal(again, l) || e != api.OK {
			t.Fatalf("E5: Runes(%q) = %v, %d, not %v", s, again, e, l)
		}
	}
}

// TestWriteEdges has all lists of up to three numbers at which the way of writing changes.
func TestWriteEdges(t *testing.T) {
	edges := []int{0, 1, 6, 7, 8, 10, 12, 13, 14, 31, 32, 33, 34, 35, 38, 39, 47, 48, 49, 57, 58, 72, 91, 92, 93, 97, 120, 126, 127, 128, 160, 1632, 55296, 65533, 1114111}
	level := [][]int{nil}
	for range 3 {
		var next [][]int
		for _, l := range level {
			for _, n := range edges {
				longer := append(slices.Clone(l), n)
				before := slices.Clone(longer)
				checkWrite(t, longer, wantedWrite(longer), api.OK)
				if !slices.Equal(longer, before) {
					t.Errorf("E3: Write(%v) left %v", before, longer)
				}
				checkRunes(t, wantedWrite(longer), longer, api.OK)
				next = append(next, longer)
			}
		}
		level = next
	}
}

func TestPlainKnown(t *testing.T) {
	for _, x := range []struct{ s, plain string }{
		{`""`, `""`},
		{`'a'`, `'a'`},
		{`'\''`, `'\''`},
		{`'\^\'`, `'\^\'`},
		{"\"a\\\n\t\\b\"", `"a\ \b"`},
		{"\"a\\\n\t\\b\\\\ \"", `"a\ \b\\ "`},
		{`"\ \"`, `"\ \"`},
		{`"\   \"`, `"\ \"`},
		{"\"\\\t\\\\\n\\\"", `"\ \\ \"`},
		{`"\\  \\"`, `"\\  \\"`},
		{`"\\\  \\\"`, `"\\\ \\\"`},
		{`"\^\\  \"`, `"\^\\ \"`},
		{`"\&\  \\&"`, `"\&\ \\&"`},
		{`"\1\  \2"`, `"\1\ \2"`},
		{`"\SO\  \H"`, `"\SO\ \H"`},
		{`"é\  \é\x41\n  "`, `"é\ \é\x41\n  "`},
		{`"\  \\"\  \"`, `"\ \\"\ \"`},
	} {
		checkPlain(t, x.s, x.plain, api.OK)
	}
}

func TestPlainEverywhere(t *testing.T) {
	eachText(t, func(s string) {
		plain, e := wantedPlain(s)
		checkPlain(t, s, plain, e)
	})
}

func TestPlainPreserves(t *testing.T) {
	eachText(t, func(s string) {
		numbers, e := Runes(s)
		plain, again := Plain(s)
		if e != again {
			t.Errorf("E4: Runes(%q) returns %d, and Plain %d", s, e, again)
		}
		if e != api.OK {
			return
		}
		if kept, e := Runes(plain); !slices.Equal(kept, numbers) || e != api.OK {
			t.Errorf("E5: Plain(%q) = %q has %v, %d, not %v", s, plain, kept, e, numbers)
		}
		if twice, e := Plain(plain); twice != plain || e != api.OK {
			t.Errorf("E5: Plain(%q) = %q, but then %q, %d", s, plain, twice, e)
		}
		kind, _, _ := Scan(s, 0)
		checkScan(t, plain, 0, kind, len(plain), api.OK)
		written, e := Write(numbers)
		if back, again := Runes(written); e != api.OK || !slices.Equal(back, numbers) || again != api.OK {
			t.Errorf("E5: Write(%v) = %q, %d stands for %v, %d", numbers, written, e, back, again)
		}
		checkPlain(t, written, written, api.OK)
	})
}

// TestOtherPanics holds that only the errors of literals are caught: another panic, even one with an error's number, goes on.
func TestOtherPanics(t *testing.T) {
	for _, thrown := range []any{"other", api.ErrEscape, piece{}, &fault{1, api.ErrQuote}} {
		for _, s := range []string{`"a"`, `'a'`, `"a`} {
			func() {
				defer func() {
					if got := recover(); got != thrown {
						t.Errorf("the panic with %v became %v", thrown, got)
					}
				}()
				read(s, 0, func(piece) { panic(thrown) })
			}()
		}
	}
}

// TestLongLiterals holds the calls to times that grow as their texts do.
func TestLongLiterals(t *testing.T) {
	const n = 1 << 20
	for _, x := range []struct {
		part    string
		numbers []int
		plain   string
	}{
		{"a", []int{97}, "a"},
		{"é", []int{233}, "é"},
		{`\n`, []int{10}, `\n`},
		{`\SOH`, []int{1}, `\SOH`},
		{`\1`, []int{1}, `\1`},
		{`\&`, nil, `\&`},
		{"\\\n\t\\", nil, `\ \`},
		{`\\\ \`, []int{92}, `\\\ \`},
	} {
		s := `"` + strings.Repeat(x.part, n) + `"`
		checkLong(t, s, slices.Repeat(x.numbers, n), `"`+strings.Repeat(x.plain, n)+`"`)
		if kind, end, e := Scan(s[:len(s)-1], 0); kind != api.NoKind || end != len(s)-1 || e != api.ErrQuote {
			t.Errorf("E1: many %q without an end: %d, %d, %d", x.part, kind, end, e)
		}
	}
	checkLong(t, `"\`+strings.Repeat("0", n)+`65"`, []int{65}, `"\`+strings.Repeat("0", n)+`65"`)
	checkLong(t, `"\`+strings.Repeat(" \n", n)+`\"`, nil, `"\ \"`)
	for _, s := range []string{`"\` + strings.Repeat("9", n) + `"`, `"\` + strings.Repeat(" ", n) + `"`, `'\x` + strings.Repeat("f", n) + `'`, `'\` + strings.Repeat(" ", n) + `\'`} {
		if kind, end, e := Scan(s, 0); kind != api.NoKind || end != 1 || e != api.ErrEscape {
			t.Errorf("E1: a long escape that is none: %d, %d, %d", kind, end, e)
		}
	}
	numbers := slices.Repeat([]int{1, '1', '"', 0x10FFFF}, n)
	s, e := Write(numbers)
	if want := `"` + strings.Repeat(`\1\&1\"\1114111`, n) + `"`; s != want || e != api.OK {
		t.Errorf("E3: Write of many numbers has %d bytes, %d", len(s), e)
	}
}

func checkLong(t *testing.T, s string, numbers []int, plain string) {
	t.Helper()
	if kind, end, e := Scan(s, 0); kind != api.Text || end != len(s) || e != api.OK {
		t.Errorf("E1: Scan = %d, %d, %d, not %d", kind, end, e, len(s))
	}
	if got, e := Runes(s); !slices.Equal(got, numbers) || e != api.OK {
		t.Errorf("E2: Runes has %d numbers, %d, not %d", len(got), e, len(numbers))
	}
	if got, e := Plain(s); got != plain || e != api.OK {
		t.Errorf("E4: Plain has %d bytes, %d, not %d", len(got), e, len(plain))
	}
}
