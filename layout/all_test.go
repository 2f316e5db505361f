package layout

import (
	"slices"
	"strings"
	"testing"

	"offside/api"
	"offside/lexer"
	"offside/mark"
)

func checkAll(t *testing.T, l, want []api.Token, e api.Errno) {
	t.Helper()
	given := roomy(api.State{Toks: l})
	for range 2 {
		got, err := All(given.Toks)
		if !slices.Equal(got, want) || err != e {
			t.Fatalf("I4: All(%s) = %s, %d; not %s, %d", show(api.State{Toks: l}), show(api.State{Toks: got}), err, show(api.State{Toks: want}), e)
		}
		if e == api.OK {
			checkTheorem(t, l, got)
		}
	}
	checkRoom(t, given, api.State{Toks: l})
}

// checkReport holds All against the report's function, and against the tokens of Next.
func checkReport(t *testing.T, l []api.Token) {
	t.Helper()
	want, ok := report(l, nil)
	e := api.OK
	if !ok {
		want, e = nil, api.ErrClose
	}
	checkAll(t, l, want, e)
	got, err := walk(t, l)
	if !slices.Equal(got, want) || err != e {
		t.Fatalf("I4: Next gives %s, %d for %s, not %s, %d", show(api.State{Toks: got}), err, show(api.State{Toks: l}), show(api.State{Toks: want}), e)
	}
}

// walk collects the tokens of Next up to the first End.
func walk(t *testing.T, l []api.Token) ([]api.Token, api.Errno) {
	t.Helper()
	var out []api.Token
	s := api.State{Toks: l}
	for range 10*len(l) + 10 {
		tok, after, e := Next(s)
		if !wantedValid(after) {
			t.Fatalf("I5: Next(%s) leaves %s", show(s), show(after))
		}
		if e != api.OK {
			return nil, e
		}
		if tok.Kind == api.End {
			return out, api.OK
		}
		out = append(out, tok)
		s = after
	}
	t.Fatalf("R1: Next of %s does not end", show(s))
	return nil, 0
}

// checkTheorem holds I5 for tokens and what All returned for them. Tokens of the kind End are not spoken of there, and neither are implicit ones that stand among the tokens already.
func checkTheorem(t *testing.T, l, all []api.Token) {
	t.Helper()
	if slices.ContainsFunc(l, func(x api.Token) bool { return isImplicit(x) || x.Kind == api.End }) {
		return
	}
	if got, want := slices.DeleteFunc(slices.Clone(all), isImplicit), slices.DeleteFunc(slices.Clone(l), isMark); !slices.Equal(got, want) {
		t.Fatalf("I5: All of %s keeps %s", show(api.State{Toks: l}), show(api.State{Toks: got}))
	}
	var open []bool // whether the braces are explicit
	for _, x := range all {
		explicit := x.Kind == api.Punct
		switch {
		case x.Kind == api.Left || explicit && x.Text == "{":
			open = append(open, explicit)
		case x.Kind == api.Right || explicit && x.Text == "}":
			if len(open) == 0 || open[len(open)-1] != explicit {
				t.Fatalf("I5: the braces do not nest: All(%s) = %s", show(api.State{Toks: l}), show(api.State{Toks: all}))
			}
			open = open[:len(open)-1]
		}
	}
	if len(open) > 0 {
		t.Fatalf("I5: a Left without its Right: All(%s) = %s", show(api.State{Toks: l}), show(api.State{Toks: all}))
	}
}

func TestAllTokens(t *testing.T) {
	x, y := api.Token{Kind: api.Var, Text: "x", Line: 1, Col: 3}, api.Token{Kind: api.Var, Text: "y", Line: 2, Col: 3}
	begin, line := api.Token{Kind: api.Begin, Line: 1, Col: 3}, api.Token{Kind: api.Line, Line: 2, Col: 3}
	left, semi, right := api.Token{Kind: api.Left, Line: 1, Col: 3}, api.Token{Kind: api.Semi, Line: 2, Col: 3}, api.Token{Kind: api.Right}
	list := func(l ...api.Token) []api.Token { return l }
	for _, c := range []struct{ l, want []api.Token }{
		{nil, nil}, {list(), nil}, {list(x), list(x)}, {list(x, y), list(x, y)}, {list(line), nil}, {list(line, x, line, y, line), list(x, y)},
		{list(begin), list(left, right)}, {list(begin, x), list(left, x, right)}, {list(begin, x, line, y), list(left, x, semi, y, right)}, {list(x, begin, y), list(x, left, y, right)},
		{list(api.Token{Kind: api.Begin}), list(api.Token{Kind: api.Left}, right)}, {list(api.Token{}), list(api.Token{})},
		{list(begin, begin, x), list(left, left, api.Token{Kind: api.Right, Line: 1, Col: 3}, api.Token{Kind: api.Semi, Line: 1, Col: 3}, x, right)},
		{list(begin, x, api.Token{Kind: api.Line, Line: 2, Col: 1}, y), list(left, x, api.Token{Kind: api.Right, Line: 2, Col: 1}, y)},
	} {
		checkAll(t, c.l, c.want, api.OK)
	}
}

// TestAllEnd has tokens of the kind End among the others: All returns what comes before the first of them.
func TestAllEnd(t *testing.T) {
	for _, end := range []api.Token{{Kind: api.End}, {Kind: api.End, Text: "x", Line: 3, Col: 1}, {Kind: api.End, Text: "}"}, {Kind: api.End, Text: "{", Line: -1}} {
		for _, s := range []string{"", "x", "x y", "<3>", "<3> x <4>"} {
			l := toks(s)
			plain := slices.DeleteFunc(slices.Clone(l), isMark)
			checkAll(t, append(slices.Clone(l), end), plain, api.OK)
			checkAll(t, append(slices.Clone(l), end, end), plain, api.OK)
			for _, rest := range []string{"z", "}", "{", "{3} x", "<0> }"} {
				checkAll(t, slices.Concat(l, []api.Token{end}, toks(rest)), plain, api.OK)
			}
		}
		l := append(toks("{3} x {"), end)
		checkAll(t, l, []api.Token{{Kind: api.Left, Line: 100, Col: 3}, l[1], l[2]}, api.OK)
		l = append(toks("{3} x {2}"), end)
		checkAll(t, l, []api.Token{{Kind: api.Left, Line: 100, Col: 3}, l[1], {Kind: api.Left, Line: 102, Col: 2}, {Kind: api.Right, Line: 102, Col: 2}, {Kind: api.Right, Line: 102, Col: 2}}, api.OK)
		checkAll(t, append(toks("}"), end), nil, api.ErrClose)
	}
}

func TestAllErrors(t *testing.T) {
	for _, s := range []string{"}", "{", "x }", "{ {", "{ } }", "{ } {", "{ { }", "} {", "{3} }", "{3} {", "{ {3} x }", "{3} x { y", "{3} { <2> {5} x }", "<3> }", "{ <3>", "{0} }", "{0} {", "{3} x <2> }", "{3} x <1> { y", "{ {3} } <3> x"} {
		checkAll(t, toks(s), nil, api.ErrClose)
	}
	for _, s := range []string{"{ }", "{ } { }", "{ { } }", "{3} { }", "{ {3} x <2> }", "{ {0} }", "{3} x { y } <3> z { {5} a <4> }", "{ {3} x <1> } <3> x"} {
		if _, e := All(toks(s)); e != api.OK {
			t.Errorf("I4: All of %q is the error %d", s, e)
		}
		checkReport(t, toks(s))
	}
}

// told tells tokens by their texts, and those of the layout by L, ; and R.
func told(l []api.Token) string {
	var out []string
	for _, x := range l {
		if isImplicit(x) {
			x.Text = string("L;R"[x.Kind-api.Left])
		}
		out = append(out, x.Text)
	}
	return strings.Join(out, " ")
}

// TestAllTexts has the tokens and marks of texts.
func TestAllTexts(t *testing.T) {
	for _, x := range []struct{ s, want string }{
		{"x = do a\n       b", "L x = do L a ; b R R"},
		{"f where", "L f where L R R"},
		{"", "L R"},
		{"\n\n-- a\n", "L R"},
		{"x\ny\n", "L x ; y R"},
		{"  x\n  y\n   z\n", "L x ; y z R"},
		{"  x\n y", "L x R y"},
		{"x = do\n  a\n   b\n  c\ny", "L x = do L a b ; c R ; y R"},
		{"x = do a\n       b\n y = c", "L x = do L a ; b R y = c R"},
		{"x = do\ny = do", "L x = do L R ; y = do L R R"},
		{"x = do\n  do\n  a", "L x = do L do L R ; a R R"},
		{"x = do\n  do\n    a\n  b", "L x = do L do L a R ; b R R"},
		{"f = case x of\n  A -> do\n    a\n    b\n  B -> c\ng", "L f = case x of L A -> do L a ; b R ; B -> c R ; g R"},
		{"f = case x of { A -> do a\n ; B -> b }", "L f = case x of { A -> do L a R ; B -> b } R"},
		{"f = case x of { A -> b\n ; B -> do {}}", "L f = case x of { A -> b ; B -> do { } } R"},
		{"f = x { a = b\n, c\n}", "L f = x { a = b , c } R"},
		{"module M where", "module M where L R"},
		{"module M where\nx\ny", "module M where L x ; y R"},
		{"module M where\n  x\n  y\n", "module M where L x ; y R"},
		{"module M where {\nx\n;y }", "module M where { x ; y }"},
		{"{ x\n; y }", "{ x ; y }"},
		{"{x = do\n a\n b\nc}", "{ x = do L a ; b R c }"},
		{"module M\n  where\n{-a-}x\n     where\n     y = 1\n     z = 2\nw", "module M where L x ; where L R ; y = 1 ; z = 2 R w"},
		{"f x = y where\n  y = x where\n  z", "L f x = y where L y = x where L R ; z R R"},
		{"f = do let a\n           b\n       c\n", "L f = do L let L a ; b R ; c R R"},
		{"f = do where {}", "L f = do L where { } R R"},
		{"f = let\n  x = 1\n  in x", "L f = let L x = 1 ; in x R R"},
		{"x = \"a\\\n  \\b\" y\nz", "L x = \"a\\\n  \\b\" y ; z R"},
		{"\tx\n        y", "L x ; y R"},
	} {
		l, _, _, e := lexer.Lex(x.s)
		if e != api.OK {
			t.Fatalf("%q is no text: %d", x.s, e)
		}
		marked := mark.Mark(l)
		checkReport(t, marked)
		if all, e := All(marked); told(all) != x.want || e != api.OK {
			t.Errorf("I4: %q gives %s, %d, not %s", x.s, told(all), e, x.want)
		}
	}
}

// TestExamples has the chapter's examples, with the places of the implicit tokens.
func TestExamples(t *testing.T) {
	l, _, _, _ := lexer.Lex("x = do a\n       b")
	checkAll(t, mark.Mark(l), []api.Token{{Kind: api.Left, Line: 1, Col: 1}, l[0], l[1], l[2], {Kind: api.Left, Line: 1, Col: 8}, l[3], {Kind: api.Semi, Line: 2, Col: 8}, l[4], {Kind: api.Right}, {Kind: api.Right}}, api.OK)
	l, _, _, _ = lexer.Lex("f where")
	checkAll(t, mark.Mark(l), []api.Token{{Kind: api.Left, Line: 1, Col: 1}, l[0], l[1], {Kind: api.Left}, {Kind: api.Right}, {Kind: api.Right}}, api.OK)
	l, _, _, _ = lexer.Lex("}")
	marked := mark.Mark(l)
	checkAll(t, marked, nil, api.ErrClose)
	opened := at(1, 0, 1).in(marked)
	checkNext(t, api.State{Toks: marked}, api.Token{Kind: api.Left, Line: 1, Col: 1}, opened, api.OK)
	checkNext(t, opened, api.Token{}, opened, api.ErrClose)
}

// TestAllMany holds All to times that grow as its list does, however many blocks are open.
func TestAllMany(t *testing.T) {
	const n = 1 << 16
	l := make([]api.Token, 0, 64*n)
	for i := range n {
		l = append(l, api.Token{Kind: api.Begin, Line: 1, Col: i + 1})
	}
	for range 30 * n {
		l = append(l, api.Token{Kind: api.Line, Line: 2, Col: n}, api.Token{Kind: api.Var})
	}
	all, e := All(l)
	if len(all) != 2*n+60*n || e != api.OK || all[n] != (api.Token{Kind: api.Semi, Line: 2, Col: n}) || all[62*n-1] != (api.Token{Kind: api.Right}) {
		t.Errorf("I4: %d tokens, %d", len(all), e)
	}
	l = slices.Concat(slices.Repeat(toks("{"), n), slices.Repeat(toks("<3>"), 60*n), slices.Repeat(toks("}"), n))
	if all, e = All(l); len(all) != 2*n || e != api.OK {
		t.Errorf("I4: %d tokens, %d", len(all), e)
	}
	s := api.State{Toks: l, At: n}
	if tok, after, e := Next(s); tok != (api.Token{}) || !equal(after, at(61*n, 0).in(l)) || e != api.ErrClose {
		t.Errorf("I1: at %d, %d", after.At, e)
	}
}
