package lexer

import (
	"slices"
	"strings"
	"testing"

	"offside/api"
)

func TestSpell(t *testing.T) {
	for _, x := range []struct {
		l    []api.Token
		want string
	}{
		{nil, ""},
		{[]api.Token{}, ""},
		{[]api.Token{tok(api.Var, "x", 1, 1)}, "x"},
		{[]api.Token{tok(api.Var, "x", 7, 70)}, "x"},
		{[]api.Token{tok(api.Var, "x", 1, 1), tok(api.Mark, "=", 5, 9)}, "x ="},
		{[]api.Token{tok(api.Int, "1", 1, 1), tok(api.Op, ".", 1, 2), tok(api.QVar, "M.é", 1, 3)}, "1 . M.é"},
		{[]api.Token{tok(api.Text, "\"a  \\\n\t\\b\"", 1, 1), tok(api.Char, "' '", 2, 9)}, "\"a  \\\n\t\\b\" ' '"},
		{[]api.Token{{}}, ""},
		{[]api.Token{{}, {}}, " "},
		{[]api.Token{{}, tok(api.Var, "x", 0, 0), {}}, " x "},
		{[]api.Token{tok(api.Left, "", 1, 1), tok(api.Var, "x", 1, 1), tok(api.Semi, "", 2, 1), tok(api.Var, "y", 2, 1), tok(api.Right, "", 0, 0)}, " x  y "},
		{[]api.Token{tok(-1, " ", -1, -1), tok(99, "\xff\x00\n", 0, 0)}, "  \xff\x00\n"},
	} {
		before := slices.Clone(x.l)
		if got := Spell(x.l); got != x.want {
			t.Errorf("G2: Spell(%v) = %q, not %q", x.l, got, x.want)
		}
		if !slices.Equal(x.l, before) {
			t.Errorf("G2: Spell has changed %v into %v", before, x.l)
		}
	}
}

func TestSpellMany(t *testing.T) {
	const n = 1 << 18
	l := slices.Repeat([]api.Token{tok(api.Var, "x", 1, 1)}, n)
	if got := Spell(l); got != strings.Repeat("x ", n)[:2*n-1] {
		t.Errorf("G2: Spell has %d bytes", len(got))
	}
	if got := Spell(l[:2]); got != "x x" {
		t.Errorf("G2: Spell = %q", got)
	}
}

// TestSame holds every two of the lists against each other: the same ones have the same number.
func TestSame(t *testing.T) {
	lists := []struct {
		class int
		l     []api.Token
	}{
		{0, nil},
		{0, []api.Token{}},
		{1, []api.Token{tok(api.Var, "x", 1, 1)}},
		{1, []api.Token{tok(api.Var, "x", 1, 2)}},
		{1, []api.Token{tok(api.Var, "x", 2, 1)}},
		{1, []api.Token{tok(api.Var, "x", 0, 0)}},
		{1, []api.Token{tok(api.Var, "x", -1, -1)}},
		{2, []api.Token{tok(api.Var, "y", 1, 1)}},
		{3, []api.Token{tok(api.Con, "x", 1, 1)}},
		{4, []api.Token{tok(api.Var, "", 1, 1)}},
		{5, []api.Token{{}}},
		{5, []api.Token{tok(api.NoKind, "", 1, 1)}},
		{6, []api.Token{tok(api.Left, "", 0, 0)}},
		{7, []api.Token{tok(api.Right, "", 0, 0)}},
		{8, []api.Token{tok(-1, "x", 1, 1)}},
		{9, []api.Token{tok(api.Var, "x ", 1, 1)}},
		{10, []api.Token{tok(api.Var, "x", 1, 1), tok(api.Var, "y", 1, 3)}},
		{10, []api.Token{tok(api.Var, "x", 1, 1), tok(api.Var, "y", 2, 1)}},
		{11, []api.Token{tok(api.Var, "y", 1, 1), tok(api.Var, "x", 1, 3)}},
		{12, []api.Token{tok(api.Var, "x", 1, 1), tok(api.Con, "y", 1, 3)}},
		{13, []api.Token{tok(api.Var, "x", 1, 1), tok(api.Var, "x", 1, 3)}},
		{14, []api.Token{tok(api.Var, "x", 1, 1), {}}},
		{15, []api.Token{{}, tok(api.Var, "x", 1, 1)}},
		{16, []api.Token{tok(api.Var, "x y", 1, 1)}},
		{17, []api.Token{tok(api.Var, "x", 1, 1), tok(api.Var, "y", 1, 3), tok(api.Var, "z", 1, 5)}},
		{18, []api.Token{tok(api.Var, "x", 1, 1), tok(api.Var, "z", 1, 3), tok(api.Var, "z", 1, 5)}},
		{19, []api.Token{tok(api.Var, "x", 1, 1), tok(api.Con, "y", 1, 3), tok(api.Var, "z", 1, 5)}},
		{20, []api.Token{tok(api.Var, "é", 1, 1)}},
		{21, []api.Token{tok(api.Var, "e\u0301", 1, 1)}},
		{22, []api.Token{tok(api.Var, "\xff", 1, 1)}},
		{23, []api.Token{tok(api.Var, "\ufffd", 1, 1)}},
		{24, slices.Repeat([]api.Token{tok(api.Op, "+", 1, 1)}, 1000)},
		{24, slices.Repeat([]api.Token{tok(api.Op, "+", 3, 9)}, 1000)},
		{25, slices.Repeat([]api.Token{tok(api.Op, "+", 1, 1)}, 999)},
		{26, append(slices.Repeat([]api.Token{tok(api.Op, "+", 1, 1)}, 999), tok(api.Op, "-", 1, 1))},
		{27, append(slices.Repeat([]api.Token{tok(api.Op, "+", 1, 1)}, 999), tok(api.QOp, "+", 1, 1))},
	}
	for _, x := range lists {
		before := slices.Clone(x.l)
		for _, y := range lists {
			if got := Same(x.l, y.l); got != (x.class == y.class) {
				t.Errorf("G3: Same(%v, %v) = %t", x.l, y.l, got)
			}
		}
		if !slices.Equal(x.l, before) {
			t.Errorf("G3: Same has changed %v into %v", before, x.l)
		}
	}
}

// TestSpeltIsTheSame holds the theorem for every text that has no error.
func TestSpeltIsTheSame(t *testing.T) {
	held := 0
	eachText(func(s string) {
		toks, notes, _, e := Lex(s)
		if e != api.OK {
			return
		}
		held++
		again, none, at, e := Lex(Spell(toks))
		if !Same(toks, again) || !Same(again, toks) || len(none) > 0 || at != 0 || e != api.OK {
			t.Fatalf("G4: %q, spelt %q, becomes %v, %v, %d, %d", s, Spell(toks), again, none, at, e)
		}
		for _, end := range []string{"\n", "\r\n", "\f", "\r \t", "\n\n \v\n", "\n    "} {
			checkLex(t, s+end, toks, notes, 0, api.OK)
		}
		ascending(t, s, toks, notes)
	})
	if held < 10000 {
		t.Errorf("G4: only %d texts", held)
	}
}

// ascending holds the places of tokens, of comments, and of all of them in the order of their places, which have to differ.
func ascending(t *testing.T, s string, toks []api.Token, notes []api.Note) {
	type spot struct{ line, col int }
	before := func(a, b spot) bool {
		return a.line < b.line || a.line == b.line && a.col < b.col
	}
	var here spot
	seen := make(map[spot]int)
	for _, x := range toks {
		next := spot{x.Line, x.Col}
		if !before(here, next) {
			t.Fatalf("G4: the places of the tokens of %q do not ascend: %v", s, toks)
		}
		here = next
		seen[next]++
	}
	here = spot{}
	for _, x := range notes {
		next := spot{x.Line, x.Col}
		if !before(here, next) || seen[next] > 0 {
			t.Fatalf("G4: the places of the comments of %q do not ascend: %v, %v", s, notes, toks)
		}
		here = next
	}
}
