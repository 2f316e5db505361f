package layout

import (
	"fmt"
	"math"
	"slices"
	"strconv"
	"strings"
	"testing"

	"offside/api"
)

const least, most = math.MinInt, math.MaxInt

// kinds are all kinds that there are, and some that there are not.
func kinds() []int {
	out := []int{least, -2, -1, api.Kinds, api.Kinds + 1, 99, most}
	for kind := range api.Kinds {
		out = append(out, kind)
	}
	return out
}

// texts are texts that look like braces or words, or are none at all.
var texts = []string{"", "{", "}", "{}", "{ ", " }", "{{", "}}", ";", "(", ")", "x", "do", "where", "\x00", "\n", "\xff", "\xc3{", "}\xff", "→"}

func isMark(t api.Token) bool { return t.Kind == api.Begin || t.Kind == api.Line }

func isImplicit(t api.Token) bool {
	return t.Kind == api.Left || t.Kind == api.Semi || t.Kind == api.Right
}

// toks reads tokens that are parted by blanks: {4} is a Begin with the column 4, <4> a Line, { and } are Puncts, and all else is a Var. Each one's line is its own.
func toks(s string) []api.Token {
	var out []api.Token
	for i, word := range strings.Fields(s) {
		x := api.Token{Kind: api.Var, Text: word, Line: 100 + i, Col: 50 + i}
		inner := strings.Trim(word, "{}<>")
		switch {
		case word == "{" || word == "}":
			x.Kind = api.Punct
		case inner != word:
			col, err := strconv.Atoi(inner)
			if err != nil {
				panic(word)
			}
			x = api.Token{Kind: api.Line, Line: 100 + i, Col: col}
			if word[0] == '{' {
				x.Kind = api.Begin
			}
		}
		out = append(out, x)
	}
	return out
}

// spot is a state without its tokens.
type spot struct {
	at, wait int
	open     []int
}

func at(at, wait int, open ...int) spot { return spot{at, wait, open} }

func (x spot) in(l []api.Token) api.State {
	return api.State{Toks: l, At: x.at, Open: x.open, Wait: x.wait}
}

func equal(a, b api.State) bool {
	return a.At == b.At && a.Wait == b.Wait && slices.Equal(a.Open, b.Open) && slices.Equal(a.Toks, b.Toks)
}

func show(s api.State) string {
	var out []string
	for _, x := range s.Toks[:min(len(s.Toks), 40)] {
		out = append(out, fmt.Sprintf("%d %.40q %d:%d", x.Kind, x.Text, x.Line, x.Col))
	}
	return fmt.Sprintf("{[%s] at %d, open %v, wait %d}", strings.Join(out, ", "), s.At, s.Open, s.Wait)
}

// roomy returns the state with room behind its slices, which nobody may write into.
func roomy(s api.State) api.State {
	s.Toks = append(slices.Clone(s.Toks), api.Token{Kind: 77, Text: "room", Line: 77, Col: 77}, api.Token{Kind: 78})[:len(s.Toks)]
	s.Open = append(slices.Clone(s.Open), 7777, 7778)[:len(s.Open)]
	return s
}

// checkRoom holds the argument of a call against what it was.
func checkRoom(t *testing.T, given, was api.State) {
	t.Helper()
	n, m := len(was.Toks), len(was.Open)
	rest := given.Toks[n : n+2]
	if !equal(given, was) || rest[0] != (api.Token{Kind: 77, Text: "room", Line: 77, Col: 77}) || rest[1] != (api.Token{Kind: 78}) || !slices.Equal(given.Open[m:m+2], []int{7777, 7778}) {
		t.Fatalf("R3, I5: the argument %s was changed to %s", show(was), show(given))
	}
}

// checkNext holds Next of s, twice, and that s stays what it was. Only the state of an ErrArg may be one that is not valid: it is the zero state, which is.
func checkNext(t *testing.T, s api.State, want api.Token, after api.State, e api.Errno) {
	t.Helper()
	given := roomy(s)
	for range 2 {
		tok, got, err := Next(given)
		if tok != want || !equal(got, after) || err != e {
			t.Fatalf("I2: Next(%s) = %v, %s, %d; not %v, %s, %d", show(s), tok, show(got), err, want, show(after), e)
		}
		if !wantedValid(got) {
			t.Fatalf("I5: Next(%s) leaves %s", show(s), show(got))
		}
	}
	checkRoom(t, given, s)
}

func checkClose(t *testing.T, s, after api.State, ok bool) {
	t.Helper()
	given := roomy(s)
	for range 2 {
		got, done := Close(given)
		if !equal(got, after) || done != ok {
			t.Fatalf("I3: Close(%s) = %s, %t; not %s, %t", show(s), show(got), done, show(after), ok)
		}
		if !wantedValid(got) {
			t.Fatalf("I5: Close(%s) leaves %s", show(s), show(got))
		}
	}
	checkRoom(t, given, s)
}

// row is a call of Next: the token that it returns is of the kind, and is the token of toks, or stands for it. It is none at the end.
type row struct {
	toks    string
	from    spot
	kind    int
	of      int
	to      spot
	whether api.Errno
}

func checkRows(t *testing.T, rows []row) {
	t.Helper()
	for _, x := range rows {
		l := toks(x.toks)
		want := api.Token{Kind: x.kind}
		if x.whether == api.OK && x.of < len(l) {
			want = l[x.of]
			if isMark(want) {
				want = api.Token{Kind: x.kind, Line: want.Line, Col: want.Col}
			}
		}
		checkNext(t, x.from.in(l), want, x.to.in(l), x.whether)
	}
}

func TestBegin(t *testing.T) {
	checkRows(t, []row{
		// no open block
		{"{4} x", at(0, 0), api.Left, 0, at(1, 0, 4), 0},
		{"{1} x", at(0, 0), api.Left, 0, at(1, 0, 1), 0},
		{"{0}", at(0, 0), api.Left, 0, at(0, 1), 0},
		{"{-1}", at(0, 0), api.Left, 0, at(0, 1), 0},
		{"x {4} y", at(1, 0), api.Left, 1, at(2, 0, 4), 0},
		// explicit braces innermost
		{"{4} x", at(0, 0, 0), api.Left, 0, at(1, 0, 0, 4), 0},
		{"{1} x", at(0, 0, 9, 0), api.Left, 0, at(1, 0, 9, 0, 1), 0},
		{"{0}", at(0, 0, 9, 0), api.Left, 0, at(0, 1, 9, 0), 0},
		{"{-7}", at(0, 0, 0), api.Left, 0, at(0, 1, 0), 0},
		// an implicit block innermost, whose column is less, equal, greater
		{"{4} x", at(0, 0, 3), api.Left, 0, at(1, 0, 3, 4), 0},
		{"{4} x", at(0, 0, 4), api.Left, 0, at(0, 1, 4), 0},
		{"{4} x", at(0, 0, 5), api.Left, 0, at(0, 1, 5), 0},
		{"{4} x", at(0, 0, 9, 3), api.Left, 0, at(1, 0, 9, 3, 4), 0},
		{"{4} x", at(0, 0, 3, 9), api.Left, 0, at(0, 1, 3, 9), 0},
		{"{0}", at(0, 0, 1), api.Left, 0, at(0, 1, 1), 0},
		{"{-4} x", at(0, 0, 1), api.Left, 0, at(0, 1, 1), 0},
		{"{2} {3} x", at(1, 0, 2), api.Left, 1, at(2, 0, 2, 3), 0},
	})
}

func TestBeginWait(t *testing.T) {
	checkRows(t, []row{
		// Wait 1: any top
		{"{4} x", at(0, 1), api.Right, 0, at(0, 2), 0},
		{"{4} x", at(0, 1, 0), api.Right, 0, at(0, 2, 0), 0},
		{"{4} x", at(0, 1, 3), api.Right, 0, at(0, 2, 3), 0},
		{"{4} x", at(0, 1, 4), api.Right, 0, at(0, 2, 4), 0},
		{"{4} x", at(0, 1, 5), api.Right, 0, at(0, 2, 5), 0},
		{"{0}", at(0, 1, 1, 0, 2), api.Right, 0, at(0, 2, 1, 0, 2), 0},
		// Wait 2: as a Line
		{"{4} x", at(0, 2), api.Var, 1, at(2, 0), 0},
		{"{4} x", at(0, 2, 0), api.Var, 1, at(2, 0, 0), 0},
		{"{4} x", at(0, 2, 3), api.Var, 1, at(2, 0, 3), 0},
		{"{4} x", at(0, 2, 4), api.Semi, 0, at(1, 0, 4), 0},
		{"{4} x", at(0, 2, 5), api.Right, 0, at(0, 2), 0},
		{"{4} x", at(0, 2, 4, 5), api.Right, 0, at(0, 2, 4), 0},
		{"{4} x", at(0, 2, 9, 0), api.Var, 1, at(2, 0, 9, 0), 0},
		{"{0}", at(0, 2), api.End, 1, at(1, 0), 0},
		{"{0}", at(0, 2, 0), api.NoKind, 1, at(1, 0, 0), api.ErrClose},
		{"{0}", at(0, 2, 1), api.Right, 0, at(0, 2), 0},
		{"{0} x", at(0, 2, 0), api.Var, 1, at(2, 0, 0), 0},
		// the next Begin does not wait
		{"{4} {5} x", at(0, 2), api.Left, 1, at(2, 0, 5), 0},
		{"{4} {3} x", at(0, 2, 3), api.Left, 1, at(1, 1, 3), 0},
		{"{4} {4} x", at(0, 2, 4), api.Semi, 0, at(1, 0, 4), 0},
	})
}

func TestLine(t *testing.T) {
	checkRows(t, []row{
		{"<4> x", at(0, 0), api.Var, 1, at(2, 0), 0},
		{"<4> x", at(0, 0, 0), api.Var, 1, at(2, 0, 0), 0},
		{"<4> x", at(0, 0, 3), api.Var, 1, at(2, 0, 3), 0},
		{"<4> x", at(0, 0, 4), api.Semi, 0, at(1, 0, 4), 0},
		{"<4> x", at(0, 0, 5), api.Right, 0, at(0, 0), 0},
		{"<4> x", at(0, 0, 4, 5), api.Right, 0, at(0, 0, 4), 0},
		{"<4> x", at(0, 0, 4, 3), api.Var, 1, at(2, 0, 4, 3), 0},
		{"<4> x", at(0, 0, 4, 0), api.Var, 1, at(2, 0, 4, 0), 0},
		{"<0> x", at(0, 0, 0), api.Var, 1, at(2, 0, 0), 0},
		{"<0> x", at(0, 0), api.Var, 1, at(2, 0), 0},
		{"<-1> x", at(0, 0), api.Var, 1, at(2, 0), 0},
		{"<-1> x", at(0, 0, 0), api.Var, 1, at(2, 0, 0), 0},
		{"<0> x", at(0, 0, 1), api.Right, 0, at(0, 0), 0},
		{"<-1> x", at(0, 0, 1), api.Right, 0, at(0, 0), 0},
		{"x <4> y", at(1, 0, 4), api.Semi, 1, at(2, 0, 4), 0},
	})
}

// steps calls Next until there is an error, or no block and no token any more, and tells what it returned: L, ; and R, and the texts of others.
func steps(t *testing.T, s api.State) string {
	t.Helper()
	var out []string
	for range 1000 {
		tok, after, e := Next(s)
		checkNext(t, s, tok, after, e)
		s = after
		switch {
		case e != api.OK:
			return strings.Join(append(out, "error", strconv.Itoa(int(e))), " ")
		case tok.Kind == api.End:
			return strings.Join(out, " ")
		case isImplicit(tok):
			out = append(out, string("L;R"[tok.Kind-api.Left]))
		default:
			out = append(out, tok.Text)
		}
	}
	t.Fatalf("R1: Next does not end")
	return ""
}

// TestSteps has marks that stand for several tokens, one after the other.
func TestSteps(t *testing.T) {
	for _, x := range []struct {
		toks string
		from spot
		want string
	}{
		// an empty block, and then what its Begin is as a Line
		{"{4} x", at(0, 0, 3, 4, 5), "L R R ; x R R"},
		{"{4} x", at(0, 0, 3, 6, 5), "L R R R x R"},
		{"{4} x", at(0, 0, 4), "L R ; x R"},
		{"{4} x", at(0, 0, 0, 5), "L R R x error 90"},
		{"{4} }", at(0, 0, 0, 5), "L R R }"},
		{"{4} x", at(0, 0, 7, 6, 5), "L R R R R x"},
		{"{4} {4} x", at(0, 0, 5), "L R R L x R"},
		{"{3} {3} {3} x", at(0, 0, 3), "L R ; L R ; L R ; x R"},
		{"{0} {0} x", at(0, 0), "L R L R x"},
		{"{0} {0} {2} x", at(0, 0, 0), "L R L R L x R error 90"},
		{"{2} {3} {4} x", at(0, 0), "L L L x R R R"},
		{"{4} {3} {2} x", at(0, 0), "L L R R L x R"},
		{"{4} x", at(0, 1, 5), "R R x"},
		{"{4} x", at(0, 1, 4), "R ; x R"},
		{"{4} x", at(0, 2, 5, 4), "; x R R"},
		{"{4} x", at(0, 2, 4, 5), "R ; x R"},
		// a Line whose Right closes one block, and then further ones
		{"<4> x", at(0, 0, 5), "R x"},
		{"<4> x", at(0, 0, 3, 4, 5), "R ; x R R"},
		{"<4> x", at(0, 0, 3, 5, 6, 7), "R R R x R"},
		{"<1> x", at(0, 0, 1, 2, 3, 4), "R R R ; x R"},
		{"<0> x", at(0, 0, 1, 2, 3), "R R R x"},
		{"<1> x", at(0, 0, 3, 0, 3, 3), "R R x error 90"},
		{"<1> } <3> x", at(0, 0, 3, 0, 3, 3), "R R } ; x R"},
		// the end
		{"", at(0, 0, 5, 3, 7), "R R R"},
		{"x", at(0, 0, 0, 2, 1), "x R R error 90"},
		{"x", at(1, 0, 2, 0, 1), "R error 90"},
	} {
		if got := steps(t, x.from.in(toks(x.toks))); got != x.want {
			t.Errorf("I2: %q, %v: %s, not %s", x.toks, x.from, got, x.want)
		}
	}
}

func TestBraces(t *testing.T) {
	checkRows(t, []row{
		{"{", at(0, 0), api.Punct, 0, at(1, 0, 0), 0},
		{"{", at(0, 0, 0), api.Punct, 0, at(1, 0, 0, 0), 0},
		{"{", at(0, 0, 4), api.Punct, 0, at(1, 0, 4, 0), 0},
		{"x { y", at(1, 0, 4, 0, 3), api.Punct, 1, at(2, 0, 4, 0, 3, 0), 0},
		{"}", at(0, 0), api.NoKind, 0, at(0, 0), api.ErrClose},
		{"}", at(0, 0, 0), api.Punct, 0, at(1, 0), 0},
		{"}", at(0, 0, 4), api.NoKind, 0, at(0, 0, 4), api.ErrClose},
		{"}", at(0, 0, 0, 1), api.NoKind, 0, at(0, 0, 0, 1), api.ErrClose},
		{"x } y", at(1, 0, 4, 0), api.Punct, 1, at(2, 0, 4), 0},
		{"}", at(0, 0, 0, 0), api.Punct, 0, at(1, 0, 0), 0},
		// passed marks
		{"<4> }", at(0, 0), api.NoKind, 1, at(1, 0), api.ErrClose},
		{"<4> }", at(0, 0, 0), api.Punct, 1, at(2, 0), 0},
		{"<4> }", at(0, 0, 0, 3), api.NoKind, 1, at(1, 0, 0, 3), api.ErrClose},
		{"<5> <4> }", at(0, 0, 3), api.NoKind, 1, at(2, 0, 3), api.ErrClose},
		{"{4} }", at(0, 2, 3), api.NoKind, 1, at(1, 0, 3), api.ErrClose},
		{"{4} <9> }", at(0, 2), api.NoKind, 1, at(2, 0), api.ErrClose},
		{"{4} {", at(0, 2, 3), api.Punct, 1, at(2, 0, 3, 0), 0},
		{"<4> {", at(0, 0), api.Punct, 1, at(2, 0, 0), 0},
	})
}

// TestBraceTokens has each kind with each text: only two of them are braces.
func TestBraceTokens(t *testing.T) {
	for _, kind := range kinds() {
		for _, text := range texts {
			x := api.Token{Kind: kind, Text: text, Line: 3, Col: 6}
			if isMark(x) {
				continue
			}
			for _, open := range [][]int{nil, {0}, {4}, {0, 4}, {4, 0}} {
				s := api.State{Toks: []api.Token{x, x}, Open: open}
				after := api.State{Toks: s.Toks, At: 1, Open: open}
				if kind == api.Punct && text == "{" {
					after.Open = append(slices.Clone(open), 0)
				}
				if kind != api.Punct || text != "}" {
					checkNext(t, s, x, after, api.OK)
				} else if len(open) > 0 && open[len(open)-1] == 0 {
					after.Open = open[:len(open)-1]
					checkNext(t, s, x, after, api.OK)
				} else {
					checkNext(t, s, api.Token{}, s, api.ErrClose)
				}
			}
		}
	}
}

// TestOthers has tokens of all other kinds, and marks of no token ahead of them.
func TestOthers(t *testing.T) {
	passed := []string{"", "<4>", "<0>", "<4> <4>", "<9> <0> <-3> <1>"}
	for _, kind := range kinds() {
		for _, text := range texts {
			for _, place := range []int{least, -1, 0, 1, 4, most} {
				x := api.Token{Kind: kind, Text: text, Line: place, Col: -place}
				if isMark(x) || kind == api.Punct && (text == "{" || text == "}") {
					continue
				}
				for _, p := range passed {
					l := append(toks(p), x, x)
					for _, open := range [][]int{nil, {0}, {7, 0}} {
						checkNext(t, at(0, 0, open...).in(l), x, at(len(l)-1, 0, open...).in(l), api.OK)
					}
				}
				l := append(toks("<9> <6> <"+strconv.Itoa(most)+">"), x, x)
				checkNext(t, at(0, 0, 0, 5).in(l), x, at(4, 0, 0, 5).in(l), api.OK)
				l[0].Kind = api.Begin
				checkNext(t, at(0, 2, 0, 5).in(l), x, at(4, 0, 0, 5).in(l), api.OK)
			}
		}
	}
}

// TestMarkTexts has marks with texts, which change nothing, and none of which gets into a token.
func TestMarkTexts(t *testing.T) {
	for _, text := range texts {
		l := toks("{4} <4> x")
		l[0].Text, l[1].Text = text, text
		checkNext(t, at(0, 0).in(l), api.Token{Kind: api.Left, Line: 100, Col: 4}, at(1, 0, 4).in(l), api.OK)
		checkNext(t, at(0, 0, 4).in(l), api.Token{Kind: api.Left, Line: 100, Col: 4}, at(0, 1, 4).in(l), api.OK)
		checkNext(t, at(0, 1, 4).in(l), api.Token{Kind: api.Right, Line: 100, Col: 4}, at(0, 2, 4).in(l), api.OK)
		checkNext(t, at(0, 2, 4).in(l), api.Token{Kind: api.Semi, Line: 100, Col: 4}, at(1, 0, 4).in(l), api.OK)
		checkNext(t, at(0, 2, 5).in(l), api.Token{Kind: api.Right, Line: 100, Col: 4}, at(0, 2).in(l), api.OK)
		checkNext(t, at(1, 0, 4).in(l), api.Token{Kind: api.Semi, Line: 101, Col: 4}, at(2, 0, 4).in(l), api.OK)
		checkNext(t, at(1, 0, 5).in(l), api.Token{Kind: api.Right, Line: 101, Col: 4}, at(1, 0).in(l), api.OK)
		checkNext(t, at(1, 0, 3).in(l), l[2], at(3, 0, 3).in(l), api.OK)
	}
}

// TestMarkPlaces has marks with lines and columns at the ends of the ints.
func TestMarkPlaces(t *testing.T) {
	for _, line := range []int{least, -1, 0, 1, most} {
		for _, col := range []int{least, least + 1, -1, 0, 1, 2, 3, most - 1, most} {
			b := []api.Token{{Kind: api.Begin, Line: line, Col: col}, {Kind: api.Var}}
			n := []api.Token{{Kind: api.Line, Line: line, Col: col}, {Kind: api.Var}}
			for _, top := range []int{0, 1, 2, most - 1, most} {
				if col > top {
					checkNext(t, at(0, 0, top).in(b), api.Token{Kind: api.Left, Line: line, Col: col}, at(1, 0, top, col).in(b), api.OK)
				} else {
					checkNext(t, at(0, 0, top).in(b), api.Token{Kind: api.Left, Line: line, Col: col}, at(0, 1, top).in(b), api.OK)
				}
				checkNext(t, at(0, 1, top).in(b), api.Token{Kind: api.Right, Line: line, Col: col}, at(0, 2, top).in(b), api.OK)
				switch {
				case top > 0 && col < top:
					checkNext(t, at(0, 0, top).in(n), api.Token{Kind: api.Right, Line: line, Col: col}, at(0, 0).in(n), api.OK)
					checkNext(t, at(0, 2, top).in(b), api.Token{Kind: api.Right, Line: line, Col: col}, at(0, 2).in(b), api.OK)
				case top > 0 && col == top:
					checkNext(t, at(0, 0, top).in(n), api.Token{Kind: api.Semi, Line: line, Col: col}, at(1, 0, top).in(n), api.OK)
					checkNext(t, at(0, 2, top).in(b), api.Token{Kind: api.Semi, Line: line, Col: col}, at(1, 0, top).in(b), api.OK)
				default:
					checkNext(t, at(0, 0, top).in(n), api.Token{Kind: api.Var}, at(2, 0, top).in(n), api.OK)
					checkNext(t, at(0, 2, top).in(b), api.Token{Kind: api.Var}, at(2, 0, top).in(b), api.OK)
				}
			}
		}
	}
}

func TestEnd(t *testing.T) {
	checkRows(t, []row{
		{"", at(0, 0), api.End, 0, at(0, 0), 0},
		{"x", at(1, 0), api.End, 1, at(1, 0), 0},
		{"x <4>", at(1, 0), api.End, 2, at(2, 0), 0},
		{"<4> <5> <0>", at(0, 0), api.End, 3, at(3, 0), 0},
		{"{4} <5>", at(0, 2), api.End, 2, at(2, 0), 0},
		{"", at(0, 0, 4), api.Right, 0, at(0, 0), 0},
		{"x", at(1, 0, 4), api.Right, 1, at(1, 0), 0},
		{"x", at(1, 0, 0, 4), api.Right, 1, at(1, 0, 0), 0},
		{"x", at(1, 0, 5, 4), api.Right, 1, at(1, 0, 5), 0},
		{"x <5> <6>", at(1, 0, 4), api.Right, 3, at(3, 0), 0},
		{"{5}", at(0, 2, 4), api.Right, 1, at(1, 0), 0},
		{"", at(0, 0, 0), api.NoKind, 0, at(0, 0, 0), api.ErrClose},
		{"x", at(1, 0, 0), api.NoKind, 1, at(1, 0, 0), api.ErrClose},
		{"x", at(1, 0, 4, 0), api.NoKind, 1, at(1, 0, 4, 0), api.ErrClose},
		{"x <4>", at(1, 0, 0), api.NoKind, 1, at(2, 0, 0), api.ErrClose},
		{"<4> <0> <9>", at(0, 0, 4, 0), api.NoKind, 3, at(3, 0, 4, 0), api.ErrClose},
		{"{4} <0>", at(0, 2, 0), api.NoKind, 1, at(2, 0, 0), api.ErrClose},
	})
	checkNext(t, api.State{}, api.Token{Kind: 21}, api.State{}, 0)
	checkNext(t, api.State{Open: []int{0}}, api.Token{}, api.State{Open: []int{0}}, 90)
	checkNext(t, api.State{Open: []int{1}}, api.Token{Kind: 20}, api.State{}, 0)
}

// TestStays holds that the state behind an End, and one with an ErrClose, gives the same again.
func TestStays(t *testing.T) {
	for _, x := range []struct {
		toks string
		from spot
		kind int
		e    api.Errno
	}{
		{"", at(0, 0), api.End, 0}, {"x <3> <4>", at(1, 0), api.End, 0}, {"{3} <4>", at(0, 2), api.End, 0},
		{"}", at(0, 0), api.NoKind, 90}, {"<2> <2> } x", at(0, 0, 0, 1), api.NoKind, 90}, {"{2} } x", at(0, 2, 1), api.NoKind, 90}, {"<3>", at(0, 0, 0), api.NoKind, 90},
	} {
		tok, s, e := Next(x.from.in(toks(x.toks)))
		if tok.Kind != x.kind || e != x.e {
			t.Errorf("I2: %q: %v, %d", x.toks, tok, e)
		}
		for range 3 {
			checkNext(t, s, tok, s, e)
		}
	}
}

// TestNumbers has the kinds and errors by their numbers.
func TestNumbers(t *testing.T) {
	l := []api.Token{{Kind: 16, Line: 2, Col: 3}, {Kind: 17, Line: 4, Col: 3}, {Kind: 17, Line: 5, Col: 1}, {Kind: 15, Text: "{", Line: 6, Col: 1}, {Kind: 15, Text: "}", Line: 7, Col: 1}, {Kind: 15, Text: "}", Line: 8, Col: 1}}
	s := api.State{Toks: l}
	for _, want := range []struct {
		tok  api.Token
		at   int
		open []int
		e    api.Errno
	}{
		{api.Token{Kind: 18, Line: 2, Col: 3}, 1, []int{3}, 0}, {api.Token{Kind: 19, Line: 4, Col: 3}, 2, []int{3}, 0}, {api.Token{Kind: 20, Line: 5, Col: 1}, 2, nil, 0},
		{l[3], 4, []int{0}, 0}, {l[4], 5, nil, 0}, {api.Token{}, 5, nil, 90}, {api.Token{}, 5, nil, 90},
	} {
		after := api.State{Toks: l, At: want.at, Open: want.open}
		checkNext(t, s, want.tok, after, want.e)
		s = after
	}
}
