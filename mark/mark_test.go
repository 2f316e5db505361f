package mark

import (
	"fmt"
	"math"
	"slices"
	"strings"
	"testing"

	"offside/api"
	"offside/place"
)

func tok(kind int, text string, line, col int) api.Token {
	return api.Token{Kind: kind, Text: text, Line: line, Col: col}
}

func begin(line, col int) api.Token {
	return tok(api.Begin, "", line, col)
}

func newLine(line, col int) api.Token {
	return tok(api.Line, "", line, col)
}

func word(text string, line, col int) api.Token {
	return tok(api.Word, text, line, col)
}

func punct(text string, line, col int) api.Token {
	return tok(api.Punct, text, line, col)
}

// list is there to have tokens without the name of their type.
func list(l ...api.Token) []api.Token {
	return l
}

// show tells tokens in messages, of which no more than the first ones are of use.
func show(l []api.Token) string {
	var out []string
	for _, x := range l[:min(len(l), 40)] {
		out = append(out, fmt.Sprintf("%d %.40q %d:%d", x.Kind, x.Text, x.Line, x.Col))
	}
	return "[" + strings.Join(out, ", ") + "]"
}

// openers are the words that a block follows.
var openers = []string{"let", "where", "do", "of"}

// reserved are the other reserved words.
var reserved = []string{"case", "class", "data", "default", "deriving", "else", "foreign", "if", "import", "in", "infix", "infixl", "infixr", "instance", "module", "newtype", "then", "type", "_"}

// kinds are all kinds that there are, and some that there are not.
func kinds() []int {
	out := []int{math.MinInt, -2, -1, api.Kinds, api.Kinds + 1, 99, math.MaxInt}
	for kind := range api.Kinds {
		out = append(out, kind)
	}
	return out
}

// odd are texts that look like the words that open a block, or are none at all.
var odd = []string{"", " ", "Let", "LET", "let ", " let", "lets", "le", "l", "let'", "let\x00", "let\n", "letlet", "let do", "wher", "Where", "wherE", "d", "o", "dO", "od", "off", "if", "do\xff", "\xffof", "\xff", "\xc3", "dо", "оf", "{", "}", "::", "\n", "\r\n", "\x00"}

func wantedOpens(t api.Token) bool {
	return t.Kind == api.Word && slices.Contains(openers, t.Text)
}

// wantedBegins tells, word for word as the chapter does, whether the token i begins its line. The newlines are those of layer 2.
func wantedBegins(l []api.Token, i int) bool {
	if i == 0 {
		return true
	}
	further := l[i].Line - l[i-1].Line
	return further != 0 && further != len(place.Lines(l[i-1].Text))-1
}

// wantedKind tells which mark stands before the token i, or behind all tokens; NoKind if there is none.
func wantedKind(l []api.Token, i int) int {
	follows := i > 0 && wantedOpens(l[i-1])
	if i == len(l) {
		if i == 0 || follows {
			return api.Begin
		}
		return api.NoKind
	}
	brace := l[i].Kind == api.Punct && l[i].Text == "{"
	module := l[i].Kind == api.Word && l[i].Text == "module"
	if i == 0 && !brace && !module || follows && !brace {
		return api.Begin
	}
	if wantedBegins(l, i) {
		return api.Line
	}
	return api.NoKind
}

// wanted is a second reading of what Mark returns.
func wanted(l []api.Token) []api.Token {
	out := make([]api.Token, 0, 2*len(l)+1)
	for i := range len(l) + 1 {
		kind := wantedKind(l, i)
		var here []api.Token
		if i < len(l) {
			here = l[i : i+1]
		}
		if kind != api.NoKind {
			m := api.Token{Kind: kind}
			for _, t := range here {
				m.Line, m.Col = t.Line, t.Col
			}
			out = append(out, m)
		}
		out = append(out, here...)
	}
	return out
}

// checkMark holds what Mark returns for l, and what Bare returns for that.
func checkMark(t *testing.T, l, want []api.Token) {
	t.Helper()
	got := Mark(l)
	if !slices.Equal(got, want) {
		t.Fatalf("H2: Mark(%s) = %s, not %s", show(l), show(got), show(want))
	}
	checkTheorem(t, l, got)
}

// checkTheorem holds H4 for tokens and what Mark returned for them. It says nothing of tokens that are marks.
func checkTheorem(t *testing.T, l, marked []api.Token) {
	t.Helper()
	if slices.ContainsFunc(l, isMark) {
		return
	}
	if got := Bare(marked); !slices.Equal(got, l) {
		t.Fatalf("H4: Bare of Mark of %s is %s", show(l), show(got))
	}
	for i, m := range marked {
		if !isMark(m) {
			continue
		}
		if i > 0 && isMark(marked[i-1]) {
			t.Fatalf("H4: two marks are adjacent: Mark(%s) = %s", show(l), show(marked))
		}
		if m.Kind == api.Begin && i > 0 && !wantedOpens(marked[i-1]) {
			t.Fatalf("H4: a Begin behind %q: Mark(%s) = %s", marked[i-1].Text, show(l), show(marked))
		}
	}
}

func isMark(t api.Token) bool {
	return t.Kind == api.Begin || t.Kind == api.Line
}

func TestOpens(t *testing.T) {
	places := []int{math.MinInt, -1, 0, 1, 7, math.MaxInt}
	for _, kind := range kinds() {
		for _, text := range slices.Concat(openers, reserved, odd) {
			want := kind == api.Word && (text == "let" || text == "where" || text == "do" || text == "of")
			for _, line := range places {
				for _, col := range places {
					if got := Opens(tok(kind, text, line, col)); got != want {
						t.Fatalf("H1: Opens of the kind %d, %q at %d %d, is %t", kind, text, line, col, got)
					}
				}
			}
		}
	}
}

// TestOpensLong has words of one, two and three bytes more or less, and a very long one.
func TestOpensLong(t *testing.T) {
	for _, text := range openers {
		for a := range 256 {
			for _, other := range []string{text + string(byte(a)), string(byte(a)) + text, text[:len(text)-1], text[1:]} {
				if Opens(word(other, 1, 1)) {
					t.Errorf("H1: %q opens a block", other)
				}
			}
			for i := range text {
				if other := text[:i] + string([]byte{byte(a)}) + text[i+1:]; Opens(word(other, 1, 1)) != (other == text) {
					t.Errorf("H1: Opens of %q is %t", other, other != text)
				}
			}
		}
	}
}

// TestFirst has lists of one token: what stands before the first one.
func TestFirst(t *testing.T) {
	checkMark(t, nil, list(begin(0, 0)))
	checkMark(t, list(), list(begin(0, 0)))
	checkMark(t, list(tok(api.Var, "x", 1, 1)), list(begin(1, 1), tok(api.Var, "x", 1, 1)))
	checkMark(t, list(tok(api.Var, "x", 3, 7)), list(begin(3, 7), tok(api.Var, "x", 3, 7)))
	checkMark(t, list(api.Token{}), list(begin(0, 0), api.Token{}))
	checkMark(t, list(tok(api.Op, "+", -1, math.MinInt)), list(begin(-1, math.MinInt), tok(api.Op, "+", -1, math.MinInt)))
	checkMark(t, list(punct("{", 2, 5)), list(newLine(2, 5), punct("{", 2, 5)))
	checkMark(t, list(punct("{", 0, 0)), list(newLine(0, 0), punct("{", 0, 0)))
	checkMark(t, list(word("module", 4, 9)), list(newLine(4, 9), word("module", 4, 9)))
	checkMark(t, list(word("module", math.MaxInt, -3)), list(newLine(math.MaxInt, -3), word("module", math.MaxInt, -3)))
	for _, text := range openers {
		checkMark(t, list(word(text, 2, 3)), list(begin(2, 3), word(text, 2, 3), begin(0, 0)))
	}
	for _, kind := range kinds() {
		for _, text := range slices.Concat(openers, reserved, odd) {
			x := tok(kind, text, 6, 8)
			first := begin(6, 8)
			if kind == api.Punct && text == "{" || kind == api.Word && text == "module" {
				first = newLine(6, 8)
			}
			want := list(first, x)
			if kind == api.Word && slices.Contains(openers, text) {
				want = append(want, begin(0, 0))
			}
			checkMark(t, list(x), want)
		}
	}
}

// TestBehindOpeners has what may stand behind a word that opens a block.
func TestBehindOpeners(t *testing.T) {
	x := tok(api.Var, "x", 1, 1)
	for _, text := range openers {
		o := word(text, 1, 3)
		for _, y := range list(tok(api.Var, "y", 1, 7), tok(api.Var, "y", 2, 1), tok(api.Var, "y", 1, 1), tok(api.Var, "y", 50, 4), tok(api.Var, "y", -9, 0), punct("}", 1, 9), punct(";", 2, 9), word("in", 2, 1), word("module", 1, 5), word("module", 3, 5), api.Token{}) {
			checkMark(t, list(x, o, y), list(begin(1, 1), x, o, begin(y.Line, y.Col), y))
		}
		checkMark(t, list(x, o, punct("{", 1, 7)), list(begin(1, 1), x, o, punct("{", 1, 7)))
		checkMark(t, list(x, o, punct("{", 2, 1)), list(begin(1, 1), x, o, newLine(2, 1), punct("{", 2, 1)))
		checkMark(t, list(x, o, punct("{", 0, 1)), list(begin(1, 1), x, o, newLine(0, 1), punct("{", 0, 1)))
		checkMark(t, list(x, o), list(begin(1, 1), x, o, begin(0, 0)))
		checkMark(t, list(o, punct("{", 1, 7), punct("{", 2, 1)), list(begin(1, 3), o, punct("{", 1, 7), newLine(2, 1), punct("{", 2, 1)))
		for _, kind := range kinds() {
			for line := range 4 {
				y := tok(kind, "{", line, 7)
				want := list(begin(1, 1), x, o, begin(line, 7), y)
				switch {
				case kind == api.Punct && line == 1:
					want = list(begin(1, 1), x, o, y)
				case kind == api.Punct:
					want = list(begin(1, 1), x, o, newLine(line, 7), y)
				}
				checkMark(t, list(x, o, y), want)
			}
		}
		for _, other := range openers {
			same, below := word(other, 1, 9), word(other, 2, 5)
			checkMark(t, list(o, same), list(begin(1, 3), o, begin(1, 9), same, begin(0, 0)))
			checkMark(t, list(o, below), list(begin(1, 3), o, begin(2, 5), below, begin(0, 0)))
			checkMark(t, list(o, same, x), list(begin(1, 3), o, begin(1, 9), same, begin(1, 1), x))
			checkMark(t, list(o, below, punct("{", 2, 9)), list(begin(1, 3), o, begin(2, 5), below, punct("{", 2, 9)))
			checkMark(t, list(o, below, punct("{", 3, 9)), list(begin(1, 3), o, begin(2, 5), below, newLine(3, 9), punct("{", 3, 9)))
			checkMark(t, list(o, punct("{", 1, 5), below, x), list(begin(1, 3), o, punct("{", 1, 5), newLine(2, 5), below, begin(1, 1), x))
		}
	}
}

// TestBehindOthers has tokens that look like those that open a block, and open none.
func TestBehindOthers(t *testing.T) {
	for _, kind := range kinds() {
		for _, text := range slices.Concat(openers, reserved, odd) {
			o := tok(kind, text, 0, 3)
			if wantedOpens(o) {
				continue
			}
			for _, y := range list(tok(api.Var, "y", 0, 7), punct("{", 0, 7), word("module", 0, 7), word("do", 0, 7)) {
				l := list(tok(api.Var, "x", 0, 1), o, y)
				want := list(begin(0, 1), l[0], o, y)
				if y.Text == "do" {
					want = append(want, begin(0, 0))
				}
				checkMark(t, l, want)
				y.Line = 9
				want = slices.Insert(want, 3, newLine(9, 7))
				want[4] = y
				checkMark(t, list(l[0], o, y), want)
			}
		}
	}
}

// TestModuleLater has the word that only as the first token has no Begin before it.
func TestModuleLater(t *testing.T) {
	x, m := tok(api.Var, "x", 1, 1), word("module", 1, 5)
	checkMark(t, list(x, m), list(begin(1, 1), x, m))
	checkMark(t, list(x, word("module", 2, 5)), list(begin(1, 1), x, newLine(2, 5), word("module", 2, 5)))
	checkMark(t, list(word("module", 1, 1), m), list(newLine(1, 1), word("module", 1, 1), m))
	checkMark(t, list(m, tok(api.Con, "M", 1, 12), word("where", 1, 14), x), list(newLine(1, 5), m, tok(api.Con, "M", 1, 12), word("where", 1, 14), begin(1, 1), x))
	checkMark(t, list(punct("{", 1, 1), m), list(newLine(1, 1), punct("{", 1, 1), m))
	checkMark(t, list(m, punct("{", 1, 1)), list(newLine(1, 5), m, punct("{", 1, 1)))
	checkMark(t, list(m, punct("{", 2, 1)), list(newLine(1, 5), m, newLine(2, 1), punct("{", 2, 1)))
}

// TestLines has the line of a token after a token with that many newlines.
func TestLines(t *testing.T) {
	for _, x := range []struct {
		text     string
		newlines int
	}{
		{"", 0}, {"x", 0}, {"\"a\"", 0}, {"é→中", 0}, {"\t\v\x00\x0b \u0085\u2028\u2029", 0}, {"\\n\\r\\f", 0},
		{"\n", 1}, {"\r", 1}, {"\f", 1}, {"\r\n", 1}, {"\"a\\\n  \\b\"", 1}, {"\"a\\\r\n\t\\b\"", 1}, {"\"\\\f\\\"", 1}, {"\"\\\r\\\"", 1}, {"\xff\n\xc3", 1}, {"\xc3\n", 1}, {"\xe2\r\n\x86", 1}, {"\xf0\f", 1},
		{"\n\n", 2}, {"\r\r", 2}, {"\f\f", 2}, {"\n\r", 2}, {"\r\r\n", 2}, {"\r\n\n", 2}, {"\r\f", 2}, {"\f\n", 2}, {"\n\f", 2}, {"\r\n\r\n", 2}, {"a\nb\nc", 2}, {"\r\nx\ny", 2}, {"\r x\n", 2},
		{"\n\r\n\r", 3}, {"\r\f\n", 3}, {"\r\n\f\r\n", 3}, {"\"\\\n\r\r\n\\\"", 3}, {"\n \n \n \n \n", 5}, {"\r\n\r\n\r\n\r\n\r\n\n", 6},
	} {
		for _, line := range []int{1, 0, -1, 2, -7, 1000, math.MinInt, math.MinInt + 2, math.MaxInt, math.MaxInt - 1} {
			for _, kind := range []int{api.Text, api.Var, api.Word, api.NoKind, -5, api.Semi} {
				before := tok(kind, x.text, line, 4)
				for further := -9; further <= 9; further++ {
					y := tok(api.Var, "y", line+further, 2)
					want := list(begin(line, 4), before, y)
					if further != 0 && further != x.newlines {
						want = slices.Insert(want, 2, newLine(y.Line, y.Col))
					}
					checkMark(t, list(before, y), want)
				}
			}
		}
	}
}

// TestLinesWrap has lines at the ends of the ints by their numbers.
func TestLinesWrap(t *testing.T) {
	const least, most = math.MinInt, math.MaxInt
	for _, x := range []struct {
		line  int
		text  string
		next  int
		marks bool
	}{
		{most, "x", most, false}, {most, "x", least, true}, {least, "x", most, true}, {least, "x", least, false}, {most, "x", 0, true}, {0, "x", least, true}, {0, "x", most, true},
		{most, "\n", least, false}, {most, "\n", most, false}, {most, "\n", least + 1, true}, {most, "\n", most - 1, true}, {most, "\r\n", least, false}, {most, "\r\n", least + 1, true},
		{most, "\n\r", least + 1, false}, {most, "\n\r", least, true}, {most - 1, "\n\n", least, false}, {most - 1, "\n\n", most, true}, {most - 2, "\n\n", most, false}, {most - 2, "\n\n", least, true},
		{least, "\n", least + 1, false}, {least, "\n", most, true}, {least, "\n", least, false}, {least + 1, "\n", least, true}, {-1, "\n", 0, false}, {0, "\n", -1, true},
	} {
		l := list(tok(api.Text, x.text, x.line, 1), tok(api.Var, "y", x.next, 5))
		want := list(begin(x.line, 1), l[0], l[1])
		if x.marks {
			want = list(begin(x.line, 1), l[0], newLine(x.next, 5), l[1])
		}
		checkMark(t, l, want)
	}
}

// TestPreviousOnly has tokens whose line hangs on the previous token, not on an earlier one, and not on the columns.
func TestPreviousOnly(t *testing.T) {
	x, text := tok(api.Var, "x", 1, 1), tok(api.Text, "\"\\\n\\\"", 1, 3)
	checkMark(t, list(x, text, tok(api.Var, "y", 2, 4), tok(api.Var, "z", 3, 1)), list(begin(1, 1), x, text, tok(api.Var, "y", 2, 4), newLine(3, 1), tok(api.Var, "z", 3, 1)))
	checkMark(t, list(x, text, tok(api.Var, "y", 2, 4), tok(api.Var, "z", 1, 1)), list(begin(1, 1), x, text, tok(api.Var, "y", 2, 4), newLine(1, 1), tok(api.Var, "z", 1, 1)))
	checkMark(t, list(text, text, text), list(begin(1, 3), text, text, text))
	checkMark(t, list(x, tok(api.Var, "y", 2, 1), x, x), list(begin(1, 1), x, newLine(2, 1), tok(api.Var, "y", 2, 1), newLine(1, 1), x, x))
	checkMark(t, list(x, tok(api.Var, "y", 1, 1), tok(api.Var, "z", 1, -5)), list(begin(1, 1), x, tok(api.Var, "y", 1, 1), tok(api.Var, "z", 1, -5)))
	checkMark(t, list(tok(api.Var, "a\nb", 1, 1), tok(api.Var, "c\nd", 2, 3), tok(api.Var, "e", 3, 3), tok(api.Var, "f", 4, 1)), list(begin(1, 1), tok(api.Var, "a\nb", 1, 1), tok(api.Var, "c\nd", 2, 3), tok(api.Var, "e", 3, 3), newLine(4, 1), tok(api.Var, "f", 4, 1)))
}

// TestMarksAmongTokens gives Mark tokens that are marks already: it takes them as it takes all others.
func TestMarksAmongTokens(t *testing.T) {
	x := tok(api.Var, "x", 1, 1)
	checkMark(t, list(begin(1, 1)), list(begin(1, 1), begin(1, 1)))
	checkMark(t, list(newLine(2, 3)), list(begin(2, 3), newLine(2, 3)))
	checkMark(t, list(begin(1, 1), x), list(begin(1, 1), begin(1, 1), x))
	checkMark(t, list(x, newLine(2, 1), tok(api.Var, "y", 2, 1)), list(begin(1, 1), x, newLine(2, 1), newLine(2, 1), tok(api.Var, "y", 2, 1)))
	checkMark(t, list(word("do", 1, 1), begin(1, 4), x), list(begin(1, 1), word("do", 1, 1), begin(1, 4), begin(1, 4), x))
	checkMark(t, list(tok(api.Begin, "do", 1, 1), x), list(begin(1, 1), tok(api.Begin, "do", 1, 1), x))
	checkMark(t, list(tok(api.Line, "{", 1, 1), tok(api.Line, "\n", 2, 1), x), list(begin(1, 1), tok(api.Line, "{", 1, 1), newLine(2, 1), tok(api.Line, "\n", 2, 1), newLine(1, 1), x))
	checkMark(t, list(tok(api.Left, "", 1, 1), x, tok(api.Semi, "", 2, 1), tok(api.Right, "", 0, 0), tok(api.End, "", 0, 0)), list(begin(1, 1), tok(api.Left, "", 1, 1), x, newLine(2, 1), tok(api.Semi, "", 2, 1), newLine(0, 0), tok(api.Right, "", 0, 0), tok(api.End, "", 0, 0)))
}
