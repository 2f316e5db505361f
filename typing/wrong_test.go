package typing

import (
	"runtime/debug"
	"slices"
	"strings"
	"testing"

	"offside/api"
	"offside/layout"
	"offside/lexer"
	"offside/mark"
	"offside/tree"
)

// TestDepth has a deep of any int.
func TestDepth(t *testing.T) {
	for _, f := range forms {
		for _, s := range []string{"a", "", "=", "}", "( a )", "<3> a", "{3}", "-> }"} {
			for _, deep := range []int{least, least + 1, -100, -1, 0} {
				checkBad(t, f, s, deep, 0, api.ErrDeep)
				wrong := api.State{Toks: toks(s), At: -1, Open: []int{3, -1}, Wait: 7}
				check(t, f, wrong, deep, api.Node{}, wrong, api.ErrDeep)
			}
		}
		for _, deep := range []int{1, 2, 99, 100, 101, 1000, most - 1, most} {
			checkGood(t, f, "a", deep, "a", 1)
			checkGood(t, f, "( )", deep, "H⟨( )⟩", 2)
			checkGood(t, f, "( , , )", deep, "H⟨( , , )⟩", 4)
			checkGood(t, f, "( -> )", deep, "H⟨( -> )⟩", 3)
			checkGood(t, f, "[ ]", deep, "H⟨[ ]⟩", 2)
			checkBad(t, f, "=", deep, 0, api.ErrSyntax)
			checkBad(t, f, "( , a", deep, 2, api.ErrSyntax)
			checkBad(t, f, "( -> a", deep, 2, api.ErrSyntax)
			checkBad(t, f, "( , }", deep, 2, api.ErrClose)
			checkBad(t, f, "( -> }", deep, 2, api.ErrClose)
		}
		for _, s := range []string{"( a )", "[ a ]", "( a , b )", "( ( ) )", "[ [ ] ]", "( =", "[ =", "( [", "(", "[", "( ]", "[ )", "[ ,", "[ ->"} {
			checkBad(t, f, s, 1, 1, api.ErrDeep)
		}
		checkBad(t, f, "( ( a ) )", 2, 2, api.ErrDeep)
		checkBad(t, f, "( a , ( b ) )", 2, 4, api.ErrDeep)
		checkBad(t, f, "( a , [ b ] )", 2, 4, api.ErrDeep)
		checkGood(t, f, "( a , [ b ] )", 3, "T⟨( a , L⟨[ b ]⟩ )⟩", 7)
		checkGood(t, f, "( ( ) )", 2, "P⟨( H⟨( )⟩ )⟩", 4)
		checkGood(t, f, "[ [ ] ]", 2, "L⟨[ H⟨[ ]⟩ ]⟩", 4)
	}
	// the same depth for each atom of a row, each row of a type, and the type behind a context
	checkGood(t, row, "a ( b ) [ c ] ( d )", 2, "A⟨a P⟨( b )⟩ L⟨[ c ]⟩ P⟨( d )⟩⟩", 10)
	checkBad(t, row, "a ( ) ( b )", 1, 4, api.ErrDeep)
	checkGood(t, typ, "a -> ( b ) -> [ c ]", 2, "R⟨a -> P⟨( b )⟩ -> L⟨[ c ]⟩⟩", 9)
	checkBad(t, typ, "a -> ( b )", 1, 3, api.ErrDeep)
	checkGood(t, full, "( a ) => ( b ) -> ( c )", 2, "Q⟨P⟨( a )⟩ => R⟨P⟨( b )⟩ -> P⟨( c )⟩⟩⟩", 11)
	checkBad(t, full, "( a ) => b", 1, 1, api.ErrDeep)
	checkBad(t, full, "a => ( b )", 1, 3, api.ErrDeep)
	checkBad(t, full, "a => b -> ( c )", 1, 5, api.ErrDeep)
	checkBad(t, full, "a -> ( b )", 1, 3, api.ErrDeep)
}

// nested returns what opens n times, what stands inside, and what closes as often.
func nested(n int, opens, inside, closes string) string {
	return strings.Repeat(opens+" ", n) + inside + strings.Repeat(" "+closes, n)
}

// usedUp returns the position behind as many brackets as the depth allows.
func usedUp(s api.State, deep int) int {
	return slices.IndexFunc(s.Toks, func(x api.Token) bool {
		if x.Text == "(" || x.Text == "[" {
			deep--
		}
		return deep == 0
	}) + 1
}

// TestDepths has types that are nested as deep as the depth allows, and one deeper.
func TestDepths(t *testing.T) {
	for _, x := range []struct{ opens, inside, closes string }{
		{"(", "a", ")"}, {"[", "a", "]"}, {"(", "( )", ")"}, {"[", "( -> )", "]"}, {"( [", "( , )", "] )"}, {"( a ->", "b", ")"}, {"[ a", "[ ]", "]"}, {"( a ,", "b", ")"}, {"(", "a", ", b )"}, {"( a , a b [", "c", "] , d )"},
	} {
		width := strings.Count(x.opens, "(") + strings.Count(x.opens, "[")
		for _, deep := range []int{1, 2, 3, 10, 49, 50, 98, 99, 100, 101, 102, 1000, 1 << 40, most} {
			fits := (min(deep, 100) - 1) / width
			for _, f := range forms {
				s := state(nested(fits, x.opens, x.inside, x.closes))
				n, after, e := checkSecond(t, f, s, deep)
				if e != api.OK || after.At != len(s.Toks) || levels(n) != fits*width+1 {
					t.Fatalf("%s: %s, %d deep, with %d: %d at %d", f.name, x.opens, fits, deep, e, after.At)
				}
				s = state(nested(fits+1, x.opens, x.inside, x.closes))
				check(t, f, s, deep, api.Node{}, moved(s, usedUp(s, min(deep, 100))), api.ErrDeep)
			}
		}
	}
	for _, f := range forms {
		for deep := 1; deep <= 120; deep++ {
			least := min(deep, 100)
			checkGood(t, f, nested(least-1, "(", "a", ")"), deep, strings.Repeat("P⟨( ", least-1)+"a"+strings.Repeat(" )⟩", least-1), 2*least-1)
			checkBad(t, f, nested(least, "(", "a", ")"), deep, least, api.ErrDeep)
			checkBad(t, f, nested(least, "[", "a", "]"), deep, least, api.ErrDeep)
			checkBad(t, f, nested(least-1, "[", "=", "]"), deep, least-1, api.ErrSyntax)
			checkBad(t, f, strings.Repeat("( ", 200), deep, least, api.ErrDeep)
		}
	}
}

// TestStates has what follows a type: the resulting state is the one for which Next returns it, and what is no token of its own is not yet passed.
func TestStates(t *testing.T) {
	for _, x := range []struct {
		s    string
		open []int
		at   int
		next int // the kind of what Next returns there
		e    api.Errno
	}{
		{"a", nil, 1, api.End, api.OK}, {"a", []int{3}, 1, api.Right, api.OK}, {"a", []int{0}, 1, api.NoKind, api.ErrClose}, {"a", []int{3, 0}, 1, api.NoKind, api.ErrClose},
		{"a }", nil, 1, api.NoKind, api.ErrClose}, {"a }", []int{3}, 1, api.NoKind, api.ErrClose}, {"a }", []int{0}, 1, api.Punct, api.OK}, {"a {", nil, 1, api.Punct, api.OK},
		{"a <3> b", []int{3}, 1, api.Semi, api.OK}, {"a <2> b", []int{3}, 1, api.Right, api.OK}, {"a {3} b", nil, 1, api.Left, api.OK}, {"a {3} b", []int{3}, 1, api.Left, api.OK}, {"a {3} b", []int{0}, 1, api.Left, api.OK},
		{"a <4> =", []int{3}, 1, api.Mark, api.OK}, {"a <4> <5> = b", []int{3}, 1, api.Mark, api.OK}, {"a <4>", nil, 1, api.End, api.OK}, {"a <4> <5>", []int{3}, 1, api.Right, api.OK}, {"a <4> }", []int{3}, 1, api.NoKind, api.ErrClose}, {"a <4>", []int{0}, 1, api.NoKind, api.ErrClose}, {"a <4> <3> b", []int{3}, 1, api.Semi, api.OK}, {"a <0> =", nil, 1, api.Mark, api.OK}, {"a <-1> =", []int{0}, 1, api.Mark, api.OK},
		{"<4> a", []int{3}, 2, api.Right, api.OK}, {"<4> <5> a <6> )", []int{3}, 3, api.Punct, api.OK}, {"<1> a ;", nil, 2, api.Punct, api.OK},
	} {
		for _, f := range forms {
			s := api.State{Toks: toks(x.s), Open: x.open}
			name := s.Toks[x.at-1]
			after := moved(s, x.at)
			check(t, f, s, 9, leaf(name), after, api.OK)
			if tok, _, e := layout.Next(after); tok.Kind != x.next || e != x.e {
				t.Errorf("Next behind %s is %v, %d", show(s), tok, e)
			}
		}
	}
	// lines that go on
	s := api.State{Toks: toks("<1> ( <4> a <5> b <6> -> <7> c <8> ) => <9> d <4> -> <5> e <3> f"), Open: []int{0, 3}}
	names := slices.DeleteFunc(slices.Clone(s.Toks), isMark)
	s.At = 1
	check(t, full, s, 9, parsed("Q⟨P⟨( R⟨A⟨a b⟩ -> c⟩ )⟩ => R⟨d -> e⟩⟩", names), moved(s, 19), api.OK)
}

// TestNextErrors has an error of Next at each place of a type: where that may not end yet, it is the error, and stands ahead of what has no token of its own.
func TestNextErrors(t *testing.T) {
	for _, x := range []struct {
		f form
		s string
	}{
		{atom, ""}, {atom, "("}, {atom, "( ,"}, {atom, "( , ,"}, {atom, "( ->"}, {atom, "( a"}, {atom, "( a b"}, {atom, "( a ->"}, {atom, "( a -> b"}, {atom, "( a ,"}, {atom, "( a , b"}, {atom, "( a , b ,"}, {atom, "["}, {atom, "[ a"}, {atom, "[ a b"}, {atom, "[ a ->"}, {atom, "[ ( )"}, {atom, "( ( a )"}, {atom, "( ["},
		{row, ""}, {row, "a ("}, {row, "a ( ,"}, {row, "a [ b"}, {row, "( a ) ("}, {typ, ""}, {typ, "a ->"}, {typ, "a b ->"}, {typ, "a -> b ->"}, {typ, "a -> ("}, {typ, "a -> b ("}, {full, ""}, {full, "a =>"}, {full, "a ->"}, {full, "a => b ->"}, {full, "a => ("}, {full, "( a ) =>"}, {full, "a => b ["}, {full, "( a"},
	} {
		n := len(toks(x.s))
		for _, end := range []string{" }", " } a", " <4> }", " {9} }", " }", " <4> <5> } )"} {
			for _, open := range [][]int{nil, {3}, {0, 3}} {
				s := api.State{Toks: toks(x.s + end), Open: open}
				e := api.ErrClose
				if s.Toks[n].Kind == api.Begin { // a Left is a token
					e = api.ErrSyntax
				}
				check(t, x.f, s, 9, api.Node{}, moved(s, n), e)
			}
		}
		for _, end := range []string{"", " <4>", " <4> <0> <-2>"} {
			for _, open := range [][]int{{0}, {3, 0}, {0, 0}} {
				s := api.State{Toks: toks(x.s + end), Open: open}
				check(t, x.f, s, 9, api.Node{}, moved(s, n), api.ErrClose)
			}
			s := api.State{Toks: toks(x.s + end), Open: []int{4}}
			check(t, x.f, s, 9, api.Node{}, moved(s, n), api.ErrSyntax)
			s.Open = nil
			check(t, x.f, s, 9, api.Node{}, moved(s, n), api.ErrSyntax)
		}
	}
	// where it may end, it ends
	for _, x := range []struct {
		f       form
		s, want string
	}{
		{atom, "a", "a"}, {atom, "( )", "H⟨( )⟩"}, {atom, "[ a ]", "L⟨[ a ]⟩"}, {row, "a", "a"}, {row, "a b", "A⟨a b⟩"}, {row, "( a )", "P⟨( a )⟩"}, {typ, "a", "a"}, {typ, "a b", "A⟨a b⟩"}, {typ, "a -> b", "R⟨a -> b⟩"}, {typ, "a -> b c", "R⟨a -> A⟨b c⟩⟩"}, {full, "a", "a"}, {full, "a b", "A⟨a b⟩"}, {full, "a -> b", "R⟨a -> b⟩"}, {full, "a => b", "Q⟨a => b⟩"}, {full, "a => b -> c", "Q⟨a => R⟨b -> c⟩⟩"},
	} {
		n := len(toks(x.s))
		for _, end := range []string{" }", " } }", " <4> } b"} {
			for _, open := range [][]int{nil, {3}, {0, 3}} {
				s := api.State{Toks: toks(x.s + end), Open: open}
				check(t, x.f, s, 9, parsed(x.want, s.Toks), moved(s, n), api.OK)
			}
		}
		s := api.State{Toks: toks(x.s), Open: []int{0}}
		check(t, x.f, s, 9, parsed(x.want, s.Toks), moved(s, n), api.OK)
	}
}

// TestImplicit has implicit tokens, and tokens of their kinds, where a type goes on otherwise.
func TestImplicit(t *testing.T) {
	for _, f := range forms {
		check(t, f, api.State{Toks: toks("<3> a"), Open: []int{3}}, 9, api.Node{}, api.State{Toks: toks("<3> a"), Open: []int{3}}, api.ErrSyntax)
		check(t, f, api.State{Toks: toks("<2> a"), Open: []int{3}}, 9, api.Node{}, api.State{Toks: toks("<2> a"), Open: []int{3}}, api.ErrSyntax)
		check(t, f, state("{3} a"), 9, api.Node{}, state("{3} a"), api.ErrSyntax)
		for wait := 1; wait <= 2; wait++ {
			s := api.State{Toks: toks("{3} a"), Wait: wait}
			if wait == 1 {
				check(t, f, s, 9, api.Node{}, s, api.ErrSyntax)
			} else {
				check(t, f, s, 9, leaf(s.Toks[1]), api.State{Toks: s.Toks, At: 2}, api.OK)
			}
		}
		s := api.State{Toks: toks("( a <3> )"), Open: []int{3}}
		check(t, f, s, 9, api.Node{}, moved(s, 2), api.ErrSyntax)
		s = api.State{Toks: toks("( {3} a )")}
		check(t, f, s, 9, api.Node{}, moved(s, 1), api.ErrSyntax)
	}
	s := api.State{Toks: toks("a -> <3> b"), Open: []int{3}}
	check(t, typ, s, 9, api.Node{}, moved(s, 2), api.ErrSyntax)
	s = api.State{Toks: toks("a => <2> b"), Open: []int{3}}
	check(t, full, s, 9, api.Node{}, moved(s, 2), api.ErrSyntax)
}

// TestWrongStates has states that are not valid at any of their fields.
func TestWrongStates(t *testing.T) {
	for _, s := range []string{"", "a", "( a )", "a => b -> c", "{3} a", "<3> a"} {
		l := toks(s)
		var wrong []api.State
		for _, at := range []int{least, -2, -1, len(l) + 1, len(l) + 2, most} {
			wrong = append(wrong, api.State{Toks: l, At: at}, api.State{Toks: l, At: at, Open: []int{3}}, api.State{Toks: l, At: at, Wait: 1})
		}
		for at := range len(l) + 1 {
			for _, open := range [][]int{{-1}, {least}, {3, -1}, {-1, 3}, {0, -7, 0}} {
				wrong = append(wrong, api.State{Toks: l, At: at, Open: open})
			}
			for _, wait := range []int{least, -1, 3, 4, most} {
				wrong = append(wrong, api.State{Toks: l, At: at, Wait: wait})
			}
			if at == len(l) || l[at].Kind != api.Begin {
				wrong = append(wrong, api.State{Toks: l, At: at, Wait: 1}, api.State{Toks: l, At: at, Wait: 2})
			}
		}
		for _, x := range wrong {
			for _, f := range forms {
				for _, deep := range []int{1, 9, 100, most} {
					check(t, f, x, deep, api.Node{}, x, api.ErrArg)
				}
			}
		}
	}
	check(t, full, api.State{}, 9, api.Node{}, api.State{}, api.ErrSyntax)
}

// TestExamples has the chapter's examples, as texts.
func TestExamples(t *testing.T) {
	lexed := func(s string) api.State {
		l, _, _, e := lexer.Lex(s)
		if e != api.OK {
			t.Fatalf("%q is no text: %d", s, e)
		}
		return api.State{Toks: l}
	}
	s := lexed("Eq a => [a] -> (b, M.T)")
	check(t, full, s, 9, parsed("Q⟨A⟨Eq a⟩ => R⟨L⟨[ a ]⟩ -> T⟨( b , M.T )⟩⟩⟩", s.Toks), moved(s, 12), api.OK)
	n, _, _ := Full(s, 9)
	if shown, e := tree.Show(n); shown != `(38 (39 2"Eq" 1"a") 10"=>" (37 (6 15"[" 1"a" 15"]") 10"->" (5 15"(" 1"b" 15"," 4"M.T" 15")")))` || e != api.OK {
		t.Errorf("L4: the tree is %s", shown)
	}
	if last := n.Kids[2].Kids[2].Kids[3]; last.Line != 1 || last.Col != 20 {
		t.Errorf("L1: M.T is at %d %d", last.Line, last.Col)
	}
	s = lexed("(,) -> a")
	check(t, typ, s, 9, parsed("R⟨H⟨( , )⟩ -> a⟩", s.Toks), moved(s, 5), api.OK)
	s = lexed("a =")
	check(t, typ, s, 9, leaf(s.Toks[0]), moved(s, 1), api.OK)
	for _, f := range forms {
		s = lexed("(a")
		check(t, f, s, 9, api.Node{}, moved(s, 2), api.ErrSyntax)
		s = lexed("((a))")
		check(t, f, s, 2, api.Node{}, moved(s, 2), api.ErrDeep)
	}
	s = lexed("{ x :: a\n  -> b\n, c")
	s.Toks = mark.Mark(s.Toks)
	at := slices.IndexFunc(s.Toks, func(x api.Token) bool { return x.Text == "a" })
	for s.At < at {
		_, s, _ = layout.Next(s)
	}
	n, after, e := Full(s, 9)
	next, _, _ := layout.Next(after)
	if brief(n) != "R⟨a -> b⟩" || e != api.OK || next.Text != "," {
		t.Errorf("L4: %s, %d, and then %v", brief(n), e, next)
	}
}

// TestLarge has types of many tokens, which would not end in time if each of them cost as much as all; and ones that are nested much deeper than they may be.
func TestLarge(t *testing.T) {
	const n = 100000
	repeat := func(first, more string, n int) api.State {
		return api.State{Toks: append(toks(first), slices.Repeat(toks(more), n)...)}
	}
	for _, x := range []struct {
		f          form
		s          api.State
		kind, kids int
	}{
		{row, repeat("a", "b", n), api.TApply, n + 1}, {typ, repeat("a", "-> b", n), api.Arrow, 2*n + 1}, {row, repeat("a", "( b )", n), api.TApply, n + 1}, {full, repeat("a => a", "-> [ b ]", n), api.Qual, 3}, {row, repeat("a", "<3> <4> b <5>", n), api.TApply, n + 1},
		{atom, api.State{Toks: append(repeat("( a", ", b", n).Toks, word(")"))}, api.Tuple, 2*n + 3}, {atom, api.State{Toks: append(repeat("(", ",", n).Toks, word(")"))}, api.Head, n + 2},
	} {
		got, after, e := x.f.call(x.s, 9)
		if e != api.OK || got.Kind != x.kind || len(got.Kids) != x.kids {
			t.Fatalf("%s of %d tokens: %d, %d kids at %d", x.f.name, len(x.s.Toks), e, len(got.Kids), after.At)
		}
		if tok, _, _ := layout.Next(after); tok.Kind != api.End {
			t.Fatalf("%s of %d tokens leaves %v", x.f.name, len(x.s.Toks), tok)
		}
	}
	s := repeat("", "(", 1<<16)
	defer debug.SetMaxStack(debug.SetMaxStack(1 << 20)) // far more than a hundred levels need
	for _, f := range forms {
		check(t, f, s, most, api.Node{}, moved(s, 100), api.ErrDeep)
	}
}

// TestOtherPanic has that only faults are caught: nothing else is hidden as an error.
func TestOtherPanic(t *testing.T) {
	for _, thrown := range []any{"x", 7, api.ErrSyntax, struct{}{}, &fault{}} {
		func() {
			defer func() {
				if got := recover(); got != thrown {
					t.Errorf("L1: the panic %v became %v", thrown, got)
				}
			}()
			parse(state("a"), 9, func(*parser, int) api.Node { panic(thrown) })
		}()
	}
}
