package mark

import (
	"math"
	"math/rand"
	"slices"
	"strconv"
	"strings"
	"testing"

	"offside/api"
	"offside/lexer"
	"offside/place"
)

// lists calls f with every list of up to n of the tokens. The list is the same memory each time.
func lists(toks []api.Token, n int, f func(l []api.Token)) {
	l := make([]api.Token, 0, n)
	var fill func()
	fill = func() {
		f(l)
		if len(l) == n {
			return
		}
		for _, x := range toks {
			l = append(l, x)
			fill()
			l = l[:len(l)-1]
		}
	}
	fill()
}

// shapes returns each of the kinds and texts in each of the lines.
func shapes(lines []int, parts ...api.Token) []api.Token {
	var out []api.Token
	for _, x := range parts {
		for _, line := range lines {
			x.Line, x.Col = line, 10*len(out)+3 // each column stands once
			out = append(out, x)
		}
	}
	return out
}

func TestMarkEverywhere(t *testing.T) {
	wide := shapes([]int{0, 1, 2, 3, math.MaxInt, math.MinInt},
		word("let", 0, 0), word("of", 0, 0), word("in", 0, 0), word("module", 0, 0), tok(api.Var, "do", 0, 0), tok(api.Con, "module", 0, 0), punct("{", 0, 0), punct("}", 0, 0), tok(api.Text, "{", 0, 0),
		tok(api.Text, "\n", 0, 0), tok(api.Text, "\r\n\f", 0, 0), tok(api.Var, "", 0, 0), tok(-1, "where", 0, 0), begin(0, 0), newLine(0, 0))
	deep := shapes([]int{1, 2}, word("do", 0, 0), word("where", 0, 0), word("module", 0, 0), punct("{", 0, 0), tok(api.Text, "\n", 0, 0), tok(api.Var, "x", 0, 0))
	held := 0
	hold := func(l []api.Token) {
		held++
		checkMark(t, l, wanted(l))
	}
	lists(wide, 3, hold)
	lists(deep, 5, hold)
	if held < 900000 {
		t.Errorf("H2: only %d lists", held)
	}
}

// TestMarkAnyTokens has long lists of tokens of any kinds, texts and places, from a source that is the same each time.
func TestMarkAnyTokens(t *testing.T) {
	r := rand.New(rand.NewSource(8))
	texts := slices.Concat(openers, reserved, odd, []string{"a\nb", "\r\n\r", "\f\f\f", "\xff\n\xfe\r\n"})
	all := kinds()
	lines := []int{0, 1, 1, 1, 2, 2, 3, -1, 100, math.MaxInt, math.MaxInt - 1, math.MinInt, math.MinInt + 1}
	for range 20000 {
		l := make([]api.Token, r.Intn(30))
		for i := range l {
			l[i] = tok(all[r.Intn(len(all))], texts[r.Intn(len(texts))], lines[r.Intn(len(lines))], int(r.Uint64()))
			switch r.Intn(4) {
			case 0:
				l[i].Kind = api.Word
			case 1:
				l[i].Kind = api.Punct
			}
			if r.Intn(50) == 0 {
				l[i].Line = int(r.Uint64())
			}
		}
		checkMark(t, l, wanted(l))
		checkBare(t, l, wantedBare(l))
	}
}

// told tells marked tokens: a Begin as {line:col}, a Line as <line:col>, the others by their texts, quoted if they have newlines.
func told(l []api.Token) string {
	var out []string
	for _, x := range l {
		where := strconv.Itoa(x.Line) + ":" + strconv.Itoa(x.Col)
		switch {
		case x.Kind == api.Begin:
			out = append(out, "{"+where+"}")
		case x.Kind == api.Line:
			out = append(out, "<"+where+">")
		case strings.ContainsAny(x.Text, "\r\n\f"):
			out = append(out, strconv.Quote(x.Text))
		default:
			out = append(out, x.Text)
		}
	}
	return strings.Join(out, " ")
}

// TestMarkTexts has the tokens of texts.
func TestMarkTexts(t *testing.T) {
	for _, x := range []struct{ s, want string }{
		{"f = do a\n  b", "{1:1} f = do {1:8} a <2:3> b"},
		{"module M where {", "<1:1> module M where {"},
		{"x where", "{1:1} x where {0:0}"},
		{"", "{0:0}"},
		{"\n-- a\n", "{0:0}"},
		{"\n\n  x", "{3:3} x"},
		{"{- a\n -} x -- b\n{--}y", "{2:5} x <3:5> y"},
		{"x{-\n-}y", "{1:1} x <2:3> y"},
		{"module M where\nimport A\n\nx = 1\n", "<1:1> module M where {2:1} import A <4:1> x = 1"},
		{"module\n M\n (x)\n where\n x = y\n where y = 1", "<1:1> module <2:2> M <3:2> ( x ) <4:2> where {5:2} x = y <6:2> where {6:8} y = 1"},
		{"module M where\n{x = 1\n;y = 2}", "<1:1> module M where <2:1> { x = 1 <3:1> ; y = 2 }"},
		{" {\n}", "<1:2> { <2:1> }"},
		{"f x = case x of\n  A -> 1\n  B -> do\n", "{1:1} f x = case x of {2:3} A -> 1 <3:3> B -> do {0:0}"},
		{"f = let a = 1; b = 2\n        c = 3 in a", "{1:1} f = let {1:9} a = 1 ; b = 2 <2:9> c = 3 in a"},
		{"f = do let x = 1\n       g $ do\n\th x", "{1:1} f = do {1:8} let {1:12} x = 1 <2:8> g $ do {3:9} h x"},
		{"f = do\nwhere x = of", "{1:1} f = do {2:1} where {2:7} x = of {0:0}"},
		{"f = do where {}", "{1:1} f = do {1:8} where { }"},
		{"x = \"a\\\n  \\b\" y\nz", "{1:1} x = \"\\\"a\\\\\\n  \\\\b\\\"\" y <3:1> z"},
		{"x = \"a\\\r\n\\b\" \"\\\f\r\\\"\ny", "{1:1} x = \"\\\"a\\\\\\r\\n\\\\b\\\"\" \"\\\"\\\\\\f\\r\\\\\\\"\" <5:1> y"},
		{"do \"\\\n\\\"\ndo \"\\\n\\\" do", "{1:1} do {1:4} \"\\\"\\\\\\n\\\\\\\"\" <3:1> do {3:4} \"\\\"\\\\\\n\\\\\\\"\" do {0:0}"},
		{"\"\\\n\\\"\"\\\n\\\"x\ny", "{1:1} \"\\\"\\\\\\n\\\\\\\"\" \"\\\"\\\\\\n\\\\\\\"\" x <4:1> y"},
		{"do' M.do _do Do doo 'd' \"do\" -- do\nx", "{1:1} do' M . do {1:10} _do Do doo 'd' \"do\" <2:1> x"},
		{"a\rb\fc\r\nd\ve", "{1:1} a <2:1> b <3:1> c <4:1> d e"},
	} {
		toks, _, _, e := lexer.Lex(x.s)
		if got := told(Mark(toks)); got != x.want || e != api.OK {
			t.Errorf("H2: %q is marked %s, not %s (%d)", x.s, got, x.want, e)
		}
	}
}

// TestMarkLinesOfTexts holds the tokens before which nothing but blanks stands in their line against those that have a mark before them, or follow a word that opens a block.
func TestMarkLinesOfTexts(t *testing.T) {
	parts := []string{"x", "do", "{", "module", "\"\\\n \\\"", "\"\\\r\n\f\\\"", " ", "\n", "\r\n", "\f "}
	texts := []string{""}
	for range 5 {
		var longer []string
		for _, s := range texts {
			for _, p := range parts {
				longer = append(longer, s+p+" ")
			}
		}
		texts = longer
		for _, s := range texts {
			checkLinesOf(t, s)
		}
	}
}

func checkLinesOf(t *testing.T, s string) {
	toks, _, _, e := lexer.Lex(s)
	if e != api.OK {
		t.Fatalf("%q has the error %d", s, e)
	}
	marked := Mark(toks)
	rows := place.Lines(s)
	at := 0 // in marked
	for i, x := range toks {
		has := isMark(marked[at])
		if has {
			at++
		}
		row := rows[x.Line-1]
		starts := strings.Trim(row[:x.Col-1], " ") == ""
		follows := i > 0 && toks[i-1].Text == "do"
		if has != (starts || follows && x.Text != "{") || marked[at] != x {
			t.Fatalf("H2: %q is marked %s", s, told(marked))
		}
		at++
	}
}

// TestMarkMany holds Mark and Bare to times that grow as their lists and the texts of the tokens do.
func TestMarkMany(t *testing.T) {
	const n = 1 << 19
	l := slices.Repeat(list(tok(api.Var, "x", 1, 1), word("do", 2, 1)), n)
	marked := Mark(l)
	if len(marked) != 4*n+1 || marked[4*n] != begin(0, 0) || marked[4*n-2] != newLine(2, 1) || marked[4*n-4] != begin(1, 1) {
		t.Fatalf("H2: %d tokens", len(marked))
	}
	if !slices.Equal(Bare(marked), l) {
		t.Errorf("H4: %d tokens", len(marked))
	}
	long := strings.Repeat("\r\n", 1<<20)
	l = list(tok(api.Text, long, 1, 1), tok(api.Text, long, 1+1<<20, 1), tok(api.Var, "x", 1<<20, 1))
	checkMark(t, l, list(begin(1, 1), l[0], l[1], newLine(1<<20, 1), l[2]))
}
