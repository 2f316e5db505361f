package note

import (
	"fmt"
	"math"
	"regexp"
	"slices"
	"strings"
	"testing"
	"unicode/utf8"

	"offside/api"
)

// atoms are what texts are put together of: what comments begin and end with, newlines and blanks of every kind, symbols and what stands next to them, runes of every class, and bytes that encode none.
var atoms = []string{
	"-", "{", "}", "--", "{-", "-}", "#", "\n", "\r", "\f", "\t", "\v", " ", "a", "A", "_", "1", "|", ">", "'", "\"", ";", "é", "→", "×", "中", "\u0085", "\u00a0", "\u00ad", "\u2028", "\ufffd", "\x00", "\x1f", "\x7f", "\xff", "\xc3", "\xe2\x86",
}

// blankAtoms are what lines are made of, and pairAtoms what brackets are.
var (
	blankAtoms = []string{"\n", "\r", "\f", "\t", "\v", " ", "x", "#"}
	pairAtoms  = []string{"{", "-", "}"}
	signAtoms  = []string{"{", "-", "}", "#"}
)

// comments are texts each of which is exactly one comment, with its kind and its lines.
var comments = []struct {
	s     string
	kind  int
	lines []string
}{
	{"--", Row, []string{"--"}},
	{"---", Row, []string{"---"}},
	{"----", Row, []string{"----"}},
	{"-- ", Row, []string{"--"}},
	{"-- a", Row, []string{"-- a"}},
	{"--a", Row, []string{"--a"}},
	{"---a", Row, []string{"---a"}},
	{"-- |a", Row, []string{"-- |a"}},
	{"-- -->", Row, []string{"-- -->"}},
	{"--a|", Row, []string{"--a|"}},
	{"--\ta\t", Row, []string{"-- a"}},
	{"--\v\va b\v", Row, []string{"--  a b"}},
	{"-- \t\v", Row, []string{"--"}},
	{"--a \tb", Row, []string{"--a  b"}},
	{"--{-", Row, []string{"--{-"}},
	{"--{--}", Row, []string{"--{--}"}},
	{"--}", Row, []string{"--}"}},
	{"--(", Row, []string{"--("}},
	{"--'\"", Row, []string{"--'\""}},
	{"--1", Row, []string{"--1"}},
	{"--_", Row, []string{"--_"}},
	{"--é→", Row, []string{"--é→"}},
	{"--中", Row, []string{"--中"}},
	{"--\u00ad", Row, []string{"--\u00ad"}},
	{"--\u00a0", Row, []string{"--\u00a0"}},
	{"--\u0085", Row, []string{"--\u0085"}},
	{"--\u2028a", Row, []string{"--\u2028a"}},
	{"--\ufffd", Row, []string{"--\ufffd"}},
	{"--\xff ", Row, []string{"--\xff"}},
	{"--\x80\xe2\x86\t\xc3\t", Row, []string{"--\x80\xe2\x86 \xc3"}},
	{"--\x00\x1f\x7f", Row, []string{"--\x00\x1f\x7f"}},

	{"{--}", Nested, []string{"{--}"}},
	{"{---}", Nested, []string{"{---}"}},
	{"{-}-}", Nested, []string{"{-}-}"}},
	{"{-{--}-}", Nested, []string{"{-{--}-}"}},
	{"{-{-}-}-}", Nested, []string{"{-{-}-}-}"}},
	{"{-{-{--}-}-}", Nested, []string{"{-{-{--}-}-}"}},
	{"{-{--}{--}-}", Nested, []string{"{-{--}{--}-}"}},
	{"{-{{--}}-}", Nested, []string{"{-{{--}}-}"}},
	{"{--{--}-}", Nested, []string{"{--{--}-}"}},
	{"{- -- -}", Nested, []string{"{- -- -}"}},
	{"{---->-}", Nested, []string{"{---->-}"}},
	{"{- } { - -}", Nested, []string{"{- } { - -}"}},
	{"{- \"-}", Nested, []string{"{- \"-}"}},
	{"{-|a-}", Nested, []string{"{-|a-}"}},
	{"{-\xff\u00ad\x00-}", Nested, []string{"{-\xff\u00ad\x00-}"}},
	{"{-é→-}", Nested, []string{"{-é→-}"}},
	{"{- a\n\tb \n-}", Nested, []string{"{- a", "b", "-}"}},
	{"{- a\n\tb \n\n-}", Nested, []string{"{- a", "b", "", "-}"}},
	{"{-\n-}", Nested, []string{"{-", "-}"}},
	{"{-\r\n-}", Nested, []string{"{-", "-}"}},
	{"{-\n\r-}", Nested, []string{"{-", "", "-}"}},
	{"{-\r\r\n\f\n-}", Nested, []string{"{-", "", "", "", "-}"}},
	{"{-a\rb\fc\nd\r\ne-}", Nested, []string{"{-a", "b", "c", "d", "e-}"}},
	{"{-\va\vb\v\n\v \t\v\n\v-}", Nested, []string{"{- a b", "", "-}"}},
	{"{- \t a \t b \t\r\n \t c\td \t\r\n \t -}", Nested, []string{"{-   a   b", "c d", "-}"}},
	{"{-\n\u00a0a\u00a0\n\u2028\n\u0085\n-}", Nested, []string{"{-", "\u00a0a\u00a0", "\u2028", "\u0085", "-}"}},
	{"{-\n \xff\t\x80 \n\xc3\t\n\xe2\x86\n-}", Nested, []string{"{-", "\xff \x80", "\xc3", "\xe2\x86", "-}"}},
	{"{-\n \x00 \x1f \n-}", Nested, []string{"{-", "\x00 \x1f", "-}"}},
	{"{-{-\n -}\n\n -}", Nested, []string{"{-{-", "-}", "", "-}"}},

	{"{-#-}", Nested, []string{"{-#-}"}},
	{"{-##-}", Pragma, []string{"{-##-}"}},
	{"{-###-}", Pragma, []string{"{-###-}"}},
	{"{-# A #-}", Pragma, []string{"{-# A #-}"}},
	{"{-#\tA\n\t#-}", Pragma, []string{"{-# A", "#-}"}},
	{"{-#\n#-}", Pragma, []string{"{-#", "#-}"}},
	{"{-# {- -} #-}", Pragma, []string{"{-# {- -} #-}"}},
	{"{-#{--}#-}", Pragma, []string{"{-#{--}#-}"}},
	{"{-#é\xff#-}", Pragma, []string{"{-#é\xff#-}"}},
	{"{-#a-}", Nested, []string{"{-#a-}"}},
	{"{-a#-}", Nested, []string{"{-a#-}"}},
	{"{-#{--}-}", Nested, []string{"{-#{--}-}"}},
	{"{-{--}#-}", Nested, []string{"{-{--}#-}"}},
	{"{- # #-}", Nested, []string{"{- # #-}"}},
	{"{-# # -}", Nested, []string{"{-# # -}"}},
	{"{-\n# #-}", Nested, []string{"{-", "# #-}"}},
	{"{-# #\n-}", Nested, []string{"{-# #", "-}"}},
	{"{-#\n-}", Nested, []string{"{-#", "-}"}},
	{"{-\n#-}", Nested, []string{"{-", "#-}"}},
}

// notComments are texts of which none is exactly one comment.
var notComments = []string{
	"", " ", "\n", "-", "a", "{", "}", "-}", "}-", "--}-->\n", "- -", "{ -", "{ --}", "x", "#", "\xff", "é",
	"-->", "--|", "--|x", "|--", "---|", "--→", "--×", "--÷", "--¡", "--¿", "--.", "--:", "--\\", "--#", "--~", "--=x", "–-", "−−",
	"--\n", "-- a\n", "-- a\r\n", "-- a\r", "-- a\f", "--\n--", "-- a\n-- b", " --", "\n--", "\t-- a", "x--", "x -- a", ">--", "{--}--",
	"{-", "{-}", "{- a", "{- a }", "{- a -", "{-{--}", "{-{-}", "{-{-}-}", "{-{-{--}-}", "{-#", "{-##", "{-#}", "{-# A #}", "{--",
	"{--}-}", "{--}}", "{--} ", "{--}\n", " {--}", "\n{--}", "{--}{--}", "{--}{-", "{-a-}--b", "--a\n{-b-}", "x{--}", "{--}x", "{{--}", "{--}#", "#{--}", "{-}-}-}", "{-# A #-} ", " {-# A #-}", "{-# A #-}{-# B #-}",
	"\xff--", "--\n\xff", "\xff{--}", "{--}\xff", "\ufeff--", "\ufeff{--}", "\u00a0--",
}

// The chapter's words as patterns, with the symbols written out.
var (
	rowPattern     = regexp.MustCompile(`\A(--+(?:[^-!#$%&*+./:<=>?@\\^|~\x{a1}-\x{ac}\x{ae}-\x{bf}\x{d7}\x{f7}\x{2190}-\x{22ff}\n\f\r][^\n\f\r]*)?)(?:[\n\f\r]|\z)`)
	newlinePattern = regexp.MustCompile(`\r\n|[\n\f\r]`)
)

// wantedScan reads a nested comment with what is nested in it read by itself, and a line comment by its pattern.
func wantedScan(s string, at int) (int, api.Errno) {
	rest := s[at:]
	if strings.HasPrefix(rest, "{-") {
		size := wantedNested(rest)
		if size == 0 {
			return 0, api.ErrNote
		}
		return at + size, api.OK
	}
	if m := rowPattern.FindStringSubmatchIndex(rest); m != nil {
		return at + m[3], api.OK
	}
	return 0, api.OK
}

// wantedNested returns the size of the nested comment that s begins with, or 0 if it does not end.
func wantedNested(s string) int {
	for at := 2; at < len(s); {
		switch {
		case strings.HasPrefix(s[at:], "-}"):
			return at + 2
		case strings.HasPrefix(s[at:], "{-"):
			size := wantedNested(s[at:])
			if size == 0 {
				return 0
			}
			at += size
		default:
			at++
		}
	}
	return 0
}

func wantedKind(s string) int {
	if s == "" {
		return None
	}
	end, e := wantedScan(s, 0)
	switch {
	case e != api.OK || end != len(s):
		return None
	case s[0] == '-':
		return Row
	case len(s) >= 6 && strings.HasPrefix(s, "{-#") && strings.HasSuffix(s, "#-}"):
		return Pragma
	}
	return Nested
}

// wantedLines returns the lines of s, and whether it is a comment.
func wantedLines(s string) ([]string, bool) {
	if wantedKind(s) == None {
		return nil, false
	}
	lines := newlinePattern.Split(s, -1)
	for i, line := range lines {
		b := []byte(line)
		for j := range b {
			if b[j] == 9 || b[j] == 11 {
				b[j] = ' '
			}
		}
		for len(b) > 0 && isBlank(b[len(b)-1]) {
			b = b[:len(b)-1]
		}
		for len(b) > 0 && isBlank(b[0]) {
			b = b[1:]
		}
		lines[i] = string(b)
	}
	return lines, true
}

func isBlank(b byte) bool {
	return b >= 9 && b <= 13 || b == 32
}

// wantedTidy joins the lines of a comment for a column.
func wantedTidy(lines []string, col int) string {
	out := lines[0]
	for _, line := range lines[1:] {
		out += "\n"
		if line != "" {
			out += fmt.Sprintf("%*s%s", col+2, "", line)
		}
	}
	return out
}

// mixes calls f with every text of up to n of the atoms, with these texts around it.
func mixes(atoms []string, n int, before, behind string, f func(s string)) {
	level := []string{""}
	for i := range n + 1 {
		var next []string
		for _, s := range level {
			f(before + s + behind)
			if i == n {
				continue
			}
			for _, a := range atoms {
				next = append(next, s+a)
			}
		}
		level = next
	}
}

// eachText calls f with the tables' texts, with every text of a few atoms, with comments made of them, and with longer ones of fewer.
func eachText(f func(s string)) {
	for _, x := range comments {
		f(x.s)
	}
	for _, s := range notComments {
		f(s)
	}
	mixes(atoms, 3, "", "", f)
	mixes(atoms, 2, "--", "", f)
	mixes(atoms, 2, "---", "\n", f)
	mixes(atoms, 2, "{-", "", f)
	mixes(atoms, 2, "{-", "-}", f)
	mixes(atoms, 2, "{-#", "#-}", f)
	mixes(pairAtoms, 9, "", "", f)
	mixes(pairAtoms, 8, "{-", "-}", f)
	mixes(signAtoms, 6, "{-", "-}", f)
	mixes(blankAtoms, 4, "{-", "-}", f)
	mixes(blankAtoms, 3, "{-#x", "x#-}", f)
	mixes(blankAtoms, 3, "--x", "", f)
}

func TestScanKnown(t *testing.T) {
	for _, x := range []struct {
		s       string
		at, end int
		e       api.Errno
	}{
		{"--x\n", 0, 3, api.OK},
		{"-->", 0, 0, api.OK},
		{"--|x", 0, 0, api.OK},
		{"-- |x", 0, 5, api.OK},
		{"{-{--}-}", 0, 8, api.OK},
		{"{-}", 0, 0, api.ErrNote},

		{"-", 0, 0, api.OK},
		{"- -", 0, 0, api.OK},
		{"-x", 0, 0, api.OK},
		{"-\n-", 0, 0, api.OK},
		{"--", 0, 2, api.OK},
		{"---", 0, 3, api.OK},
		{"----", 0, 4, api.OK},
		{"-----x", 0, 6, api.OK},
		{"|--", 0, 0, api.OK},
		{"--|", 0, 0, api.OK},
		{"---|", 0, 0, api.OK},
		{"--|--", 0, 0, api.OK},
		{"-|--", 0, 0, api.OK},
		{"|--", 1, 3, api.OK},
		{"---", 1, 3, api.OK},
		{"---", 2, 0, api.OK},
		{"--→", 0, 0, api.OK},
		{"--a→", 0, 6, api.OK},
		{"--\xe2\x86", 0, 4, api.OK},
		{"--\xff→\n", 0, 6, api.OK},
		{"--\n", 0, 2, api.OK},
		{"--\r", 0, 2, api.OK},
		{"--\f", 0, 2, api.OK},
		{"--\r\n", 0, 2, api.OK},
		{"--a\r\nb", 0, 3, api.OK},
		{"--a\n\rb", 0, 3, api.OK},
		{"--a\fb\rc\nd", 0, 3, api.OK},
		{"--a\rb\n", 0, 3, api.OK},
		{"--\va\n", 0, 4, api.OK},
		{"--\u0085\u2028\n", 0, 7, api.OK},
		{"-- a\n-- b", 0, 4, api.OK},
		{"-- a\n-- b", 5, 9, api.OK},
		{"-- a\n-- b", 4, 0, api.OK},
		{"x -- a", 0, 0, api.OK},
		{"x -- a", 1, 0, api.OK},
		{"x -- a", 2, 6, api.OK},
		{"x -- a", 3, 0, api.OK},
		{"é--a", 2, 5, api.OK},
		{"é--a", 1, 0, api.OK},
		{"--{-\n", 0, 4, api.OK},
		{"--}", 0, 3, api.OK},

		{"{", 0, 0, api.OK},
		{"{}", 0, 0, api.OK},
		{"{ --}", 0, 0, api.OK},
		{"{ --}", 2, 5, api.OK},
		{"-}", 0, 0, api.OK},
		{"--}", 0, 3, api.OK},
		{"}-", 0, 0, api.OK},
		{"{--}", 0, 4, api.OK},
		{"{--}", 1, 4, api.OK},
		{"{--}", 2, 0, api.OK},
		{"{--}", 3, 0, api.OK},
		{"{---}", 0, 5, api.OK},
		{"{-}-}", 0, 5, api.OK},
		{"{--}-}", 0, 4, api.OK},
		{"{-a-}b-}", 0, 5, api.OK},
		{"{-{-}-}", 0, 0, api.ErrNote},
		{"{-{-}-}-}", 0, 9, api.OK},
		{"{-{-}-}", 2, 7, api.OK},
		{"{-{--}", 0, 0, api.ErrNote},
		{"{-{--}", 2, 6, api.OK},
		{"{-{-}", 0, 0, api.ErrNote},
		{"{-", 0, 0, api.ErrNote},
		{"{--", 0, 0, api.ErrNote},
		{"{-\n", 0, 0, api.ErrNote},
		{"{- -", 0, 0, api.ErrNote},
		{"{- }", 0, 0, api.ErrNote},
		{"{- - }", 0, 0, api.ErrNote},
		{"{-{", 0, 0, api.ErrNote},
		{"{-{--}{-", 0, 0, api.ErrNote},
		{"{- -- -}\n", 0, 8, api.OK},
		{"{- \"-}\"", 0, 6, api.OK},
		{"{--}{-", 0, 4, api.OK},
		{"{--}{-", 4, 0, api.ErrNote},
		{"{-# A #-} x", 0, 9, api.OK},
		{"{-\xff-}\xff", 0, 5, api.OK},
		{"x{--}", 1, 5, api.OK},
		{"{{--}", 0, 0, api.OK},
		{"{{--}", 1, 5, api.OK},
	} {
		if end, e := Scan(x.s, x.at); end != x.end || e != x.e {
			t.Errorf("F1: Scan(%q, %d) = %d, %d, not %d, %d", x.s, x.at, end, e, x.end, x.e)
		}
	}
}

func TestScanEverywhere(t *testing.T) {
	eachText(func(s string) {
		for at := range len(s) {
			wantEnd, wantE := wantedScan(s, at)
			if end, e := Scan(s, at); end != wantEnd || e != wantE {
				t.Fatalf("F1: Scan(%q, %d) = %d, %d, not %d, %d", s, at, end, e, wantEnd, wantE)
			}
		}
	})
}

func TestScanOutside(t *testing.T) {
	for _, s := range []string{"", "--", "{--}", "{-", "-- a\n", "é"} {
		for _, at := range []int{-1, -2, math.MinInt, len(s), len(s) + 1, math.MaxInt} {
			if end, e := Scan(s, at); end != 0 || e != api.OK {
				t.Errorf("F1: Scan(%q, %d) = %d, %d", s, at, end, e)
			}
		}
	}
}

// isSymbol tells the class by the numbers of the first chapter.
func isSymbol(c rune) bool {
	return c < 128 && strings.ContainsRune(`!#$%&*+-./:<=>?@\^|~`, c) || c >= 161 && c <= 191 && c != 173 || c == 215 || c == 247 || c >= 8592 && c <= 8959
}

// TestScanEveryRune puts every rune behind dashes, ahead of them, and into comments.
func TestScanEveryRune(t *testing.T) {
	for c := rune(0); c <= utf8.MaxRune; c++ {
		if !utf8.ValidRune(c) {
			continue
		}
		r := string(c)
		row := "--" + r + "\n"
		want := len(row) - 1
		switch {
		case c == '\n' || c == '\f' || c == '\r':
			want = len("--")
		case c != '-' && isSymbol(c):
			want = 0
		}
		if end, e := Scan(row, 0); end != want || e != api.OK {
			t.Fatalf("F1: Scan(%q, 0) = %d, %d, not %d", row, end, e, want)
		}
		if end, e := Scan(r+"--", len(r)); end != len(r)+2 || e != api.OK {
			t.Fatalf("F1: Scan(%q, %d) = %d, %d", r+"--", len(r), end, e)
		}
		if end, e := Scan(r+" --", 0); end != 0 || e != api.OK {
			t.Fatalf("F1: Scan(%q, 0) = %d, %d", r+" --", end, e)
		}
		if s := "{-" + r + " -}"; Kind(s) != Nested {
			t.Fatalf("F2: Kind(%q) = %d", s, Kind(s))
		}
		if s := "-- " + r; (Kind(s) == Row) == newlinePattern.MatchString(r) {
			t.Fatalf("F2: Kind(%q) = %d", s, Kind(s))
		}
	}
}

// TestScanEveryByte puts every byte, and so what encodes no rune, behind dashes.
func TestScanEveryByte(t *testing.T) {
	for a := range 256 {
		for b := range 256 {
			s := string([]byte{'-', '-', byte(a), byte(b), '\n'})
			for at := range len(s) {
				wantEnd, wantE := wantedScan(s, at)
				if end, e := Scan(s, at); end != wantEnd || e != wantE {
					t.Fatalf("F1: Scan(%q, %d) = %d, %d, not %d, %d", s, at, end, e, wantEnd, wantE)
				}
			}
		}
	}
}

func TestKindKnown(t *testing.T) {
	if None != 0 || Row != 1 || Nested != 2 || Pragma != 3 {
		t.Errorf("F2: the kinds are %d, %d, %d, %d", None, Row, Nested, Pragma)
	}
	for _, x := range comments {
		if kind := Kind(x.s); kind != x.kind {
			t.Errorf("F2: Kind(%q) = %d, not %d", x.s, kind, x.kind)
		}
	}
	for _, s := range notComments {
		if kind := Kind(s); kind != None {
			t.Errorf("F2: Kind(%q) = %d", s, kind)
		}
	}
}

func TestKindEverywhere(t *testing.T) {
	eachText(func(s string) {
		if kind, want := Kind(s), wantedKind(s); kind != want {
			t.Fatalf("F2: Kind(%q) = %d, not %d", s, kind, want)
		}
	})
}

func TestLinesKnown(t *testing.T) {
	for _, x := range comments {
		if lines, e := Lines(x.s); !slices.Equal(lines, x.lines) || e != api.OK {
			t.Errorf("F3: Lines(%q) = %q, %d, not %q", x.s, lines, e, x.lines)
		}
	}
	for _, s := range notComments {
		if lines, e := Lines(s); len(lines) != 0 || e != api.ErrNote {
			t.Errorf("F3: Lines(%q) = %q, %d", s, lines, e)
		}
	}
}

func TestLinesEverywhere(t *testing.T) {
	eachText(func(s string) {
		want, isComment := wantedLines(s)
		wantE := api.OK
		if !isComment {
			wantE = api.ErrNote
		}
		if lines, e := Lines(s); !slices.Equal(lines, want) || e != wantE {
			t.Fatalf("F3: Lines(%q) = %q, %d, not %q, %d", s, lines, e, want, wantE)
		}
	})
}

// TestLinesEveryByte puts every byte at the beginning, within and at the end of a line.
func TestLinesEveryByte(t *testing.T) {
	for a := range 256 {
		for b := range 256 {
			s := string([]byte{'{', '-', byte(a), '\n', byte(a), byte(b), 'x', byte(a), byte(b), 'y', byte(b), byte(a), '\n', byte(b), '-', '}'})
			want, isComment := wantedLines(s)
			if lines, e := Lines(s); !isComment && e != api.ErrNote || !slices.Equal(lines, want) {
				t.Fatalf("F3: Lines(%q) = %q, %d, not %q", s, lines, e, want)
			}
		}
	}
}

// TestLinesAreNew writes into what Lines returned.
func TestLinesAreNew(t *testing.T) {
	first, _ := Lines("{- a\nb -}")
	first[0], first[1] = "", ""
	if second, e := Lines("{- a\nb -}"); !slices.Equal(second, []string{"{- a", "b -}"}) || e != api.OK {
		t.Errorf("F3: Lines = %q, %d", second, e)
	}
}

func TestTidyKnown(t *testing.T) {
	for _, x := range []struct {
		s    string
		col  int
		want string
	}{
		{"{- a\n\tb \n-}", 1, "{- a\n   b\n   -}"},
		{"{- a\n\tb \n-}", 2, "{- a\n    b\n    -}"},
		{"{- a\n\tb \n\n-}", 3, "{- a\n     b\n\n     -}"},
		{"-- a\t", 1, "-- a"},
		{"-- a\t", 65536, "-- a"},
		{"--\va", 9, "-- a"},
		{"{--}", 5, "{--}"},
		{"{-\r\n\r\n \t\f-}", 1, "{-\n\n\n   -}"},
		{"{-\r-}", 4, "{-\n      -}"},
		{"{-#\tA\f\v#-}", 1, "{-# A\n   #-}"},
		{"{-\n\xff\t\xc3\n-}", 1, "{-\n   \xff \xc3\n   -}"},
		{"{-\n\n-}", 65535, "{-\n\n" + strings.Repeat(" ", 65537) + "-}"},
		{"{-\nx\n-}", 65536, "{-\n" + strings.Repeat(" ", 65538) + "x\n" + strings.Repeat(" ", 65538) + "-}"},
	} {
		if got, e := Tidy(x.s, x.col); got != x.want || e != api.OK {
			t.Errorf("F4: Tidy(%q, %d) = %.200q, %d, not %.200q", x.s, x.col, got, e, x.want)
		}
	}
}

func TestTidyEverywhere(t *testing.T) {
	eachText(func(s string) {
		lines, isComment := wantedLines(s)
		for _, col := range []int{1, 2, 9} {
			got, e := Tidy(s, col)
			if !isComment && (got != "" || e != api.ErrNote) {
				t.Fatalf("F4: Tidy(%q, %d) = %q, %d", s, col, got, e)
			}
			if isComment && (got != wantedTidy(lines, col) || e != api.OK) {
				t.Fatalf("F4: Tidy(%q, %d) = %q, %d, not %q", s, col, got, e, wantedTidy(lines, col))
			}
		}
	})
}

func TestTidyEveryColumn(t *testing.T) {
	const s = "{- a\n b\n\n\t-}"
	lines, _ := wantedLines(s)
	for col := 1; col <= 65536; col += 1 + col/7 {
		if got, e := Tidy(s, col); got != wantedTidy(lines, col) || e != api.OK {
			t.Fatalf("F4: Tidy(%q, %d) has %d bytes, and %d", s, col, len(got), e)
		}
	}
}

// TestTidyWrong holds columns that are none, texts that are no comment, and both at once.
func TestTidyWrong(t *testing.T) {
	texts := slices.Clone(notComments)
	for _, x := range comments {
		texts = append(texts, x.s)
	}
	for _, s := range texts {
		for _, col := range []int{0, -1, -2, -3, math.MinInt, 65537, math.MaxInt - 1, math.MaxInt} {
			if got, e := Tidy(s, col); got != "" || e != api.ErrArg {
				t.Errorf("F4: Tidy(%q, %d) = %.200q, %d", s, col, got, e)
			}
		}
	}
	for _, s := range notComments {
		for _, col := range []int{1, 8, 65536} {
			if got, e := Tidy(s, col); got != "" || e != api.ErrNote {
				t.Errorf("F4: Tidy(%q, %d) = %.200q, %d", s, col, got, e)
			}
		}
	}
}

func TestSameKnown(t *testing.T) {
	for _, x := range []struct {
		a, b string
		want bool
	}{
		{"--", "--", true},
		{"-- a", "-- a \t", true},
		{"--\ta", "-- a", true},
		{"--\va", "-- a", true},
		{"--a", "-- a", false},
		{"-- a", "--  a", false},
		{"--", "---", false},
		{"-- a", "-- A", false},
		{"-- é", "-- e\u0301", false},
		{"{- a\n b-}", "{- a \n\t\tb-}", true},
		{"{-a\nb-}", "{-a\r\nb-}", true},
		{"{-a\nb-}", "{-a\f\v b-}", true},
		{"{-a\nb-}", "{-a b-}", false},
		{"{-a\n\nb-}", "{-a\nb-}", false},
		{"{-a\n\nb-}", "{-a\n \t\nb-}", true},
		{"{-\r\n-}", "{-\n-}", true},
		{"{-\n\r-}", "{-\n-}", false},
		{"{-a-}", "{- a-}", false},
		{"{-a-}", "--a", false},
		{"{-\xff-}", "{-\xfe-}", false},
		{"{-\xff-}", "{-\ufffd-}", false},
		{"{-#-}", "{-##-}", false},
		{"{-# A\n#-}", "{-# A\r\t#-}", true},
		{"x", "x", false},
		{"", "", false},
		{"--", "", false},
		{"", "--", false},
		{"--\n", "--", false},
		{"--", "--\n", false},
		{"--\n", "--\n", false},
		{"{-", "{-", false},
		{"{--} ", "{--}", false},
		{"{--}", " {--}", false},
		{"-->", "-->", false},
	} {
		if got := Same(x.a, x.b); got != x.want {
			t.Errorf("F5: Same(%q, %q) = %t", x.a, x.b, got)
		}
	}
}

// TestSameEveryTwo holds every two of many texts against each other, most of them with lines that others have too.
func TestSameEveryTwo(t *testing.T) {
	texts := slices.Clone(notComments)
	for _, x := range comments {
		texts = append(texts, x.s)
	}
	mixes(blankAtoms, 2, "{-", "-}", func(s string) { texts = append(texts, s) })
	mixes(blankAtoms, 2, "{-\n", "\n-}", func(s string) { texts = append(texts, s) })
	mixes(blankAtoms, 2, "--x", "", func(s string) { texts = append(texts, s) })
	lines := make([][]string, len(texts))
	isComment := make([]bool, len(texts))
	for i, s := range texts {
		lines[i], isComment[i] = wantedLines(s)
	}
	for i, a := range texts {
		for j, b := range texts {
			want := isComment[i] && isComment[j] && slices.Equal(lines[i], lines[j])
			if got := Same(a, b); got != want {
				t.Fatalf("F5: Same(%q, %q) = %t", a, b, got)
			}
		}
	}
}

// TestReformattedIsTheSame holds the theorem for every comment among the texts.
func TestReformattedIsTheSame(t *testing.T) {
	held := 0
	eachText(func(s string) {
		if Kind(s) == None {
			return
		}
		for _, col := range []int{1, 4, 65} {
			held++
			out, e := Tidy(s, col)
			if e != api.OK {
				t.Fatalf("F6: Tidy(%q, %d) returns %d", s, col, e)
			}
			if Kind(out) != Kind(s) {
				t.Fatalf("F6: Tidy(%q, %d) = %q has the kind %d, not %d", s, col, out, Kind(out), Kind(s))
			}
			if !Same(s, out) || !Same(out, s) {
				t.Fatalf("F6: Tidy(%q, %d) = %q is not the same", s, col, out)
			}
			if again, e := Tidy(out, col); again != out || e != api.OK {
				t.Fatalf("F6: Tidy(%q, %d) = %q, %d", out, col, again, e)
			}
			if strings.Contains(out, "\t") {
				t.Fatalf("F6: Tidy(%q, %d) = %q has a tab", s, col, out)
			}
			for line := range strings.SplitSeq(out, "\n") {
				if strings.HasSuffix(line, " ") {
					t.Fatalf("F6: Tidy(%q, %d) = %q has a line that ends with a space", s, col, out)
				}
			}
		}
	})
	if held < 10000 {
		t.Errorf("F6: only %d comments", held)
	}
}

// TestLongTexts holds the calls to times that grow as their texts do, however deep a comment is nested.
func TestLongTexts(t *testing.T) {
	const n = 1 << 20
	deep := strings.Repeat("{-", n) + strings.Repeat("-}", n)
	if end, e := Scan(deep+"x", 0); end != 4*n || e != api.OK {
		t.Errorf("F1: Scan = %d, %d", end, e)
	}
	if end, e := Scan(deep[:len(deep)-1], 0); end != 0 || e != api.ErrNote {
		t.Errorf("F1: Scan = %d, %d", end, e)
	}
	if kind := Kind(deep + "-}"); kind != None {
		t.Errorf("F2: Kind = %d", kind)
	}
	rows := strings.Repeat("--\n", n)
	for at := 0; at < len(rows); at += 3 {
		if end, e := Scan(rows, at); end != at+2 || e != api.OK {
			t.Fatalf("F1: Scan at %d = %d, %d", at, end, e)
		}
	}
	dashes := strings.Repeat("-", n)
	if end, e := Scan(dashes, 0); end != n || e != api.OK {
		t.Errorf("F1: Scan = %d, %d", end, e)
	}
	if end, e := Scan(dashes+">", 0); end != 0 || e != api.OK {
		t.Errorf("F1: Scan = %d, %d", end, e)
	}
	long := "{-" + strings.Repeat("\t\va\t\v\r\n\t\r", n/4) + "-}"
	if lines, e := Lines(long); len(lines) != n/2+1 || lines[n/4] != "a" || lines[n/4+1] != "" || e != api.OK {
		t.Errorf("F3: %d lines, %d", len(lines), e)
	}
	want := "{-  a" + strings.Repeat("\n\n     a", n/4-1) + "\n\n     -}"
	if out, e := Tidy(long, 3); out != want || e != api.OK {
		t.Errorf("F4: Tidy has %d bytes, not %d, %d", len(out), len(want), e)
	}
	if !Same(long, want) {
		t.Error("F5: not the same")
	}
}
