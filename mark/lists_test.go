package mark

import (
	"math"
	"slices"
	"testing"

	"offside/api"
)

// wantedBare takes the marks away one by one.
func wantedBare(l []api.Token) []api.Token {
	return slices.DeleteFunc(slices.Clone(l), isMark)
}

func checkBare(t *testing.T, l, want []api.Token) {
	t.Helper()
	if got := Bare(l); !slices.Equal(got, want) {
		t.Fatalf("H3: Bare(%s) = %s, not %s", show(l), show(got), show(want))
	}
}

func TestBare(t *testing.T) {
	x, y, z := tok(api.Var, "x", 1, 1), word("do", 1, 3), tok(api.Con, "", -1, 7)
	b, n := begin(1, 1), newLine(2, 1)
	for _, c := range []struct{ l, want []api.Token }{
		{nil, nil}, {list(), nil},
		{list(b), nil}, {list(n), nil}, {list(b, n), nil}, {list(n, b, b, n, n), nil},
		{list(x), list(x)}, {list(x, y, z), list(x, y, z)}, {list(z, y, x, x), list(z, y, x, x)},
		{list(b, x), list(x)}, {list(n, x), list(x)}, {list(x, b), list(x)}, {list(x, n), list(x)},
		{list(b, n, x, y), list(x, y)}, {list(x, b, y), list(x, y)}, {list(x, n, y), list(x, y)}, {list(x, n, n, b, y, z), list(x, y, z)}, {list(x, y, b, n), list(x, y)},
		{list(b, x, n, y, b, z, n), list(x, y, z)}, {list(n, n, z, b, b, x, n, b), list(z, x)},
		{list(tok(api.Begin, "do", 1, 1), x), list(x)}, {list(tok(api.Line, "x", -1, math.MaxInt), x, tok(api.Begin, "\xff", 0, 0)), list(x)},
		{list(tok(api.Left, "", 1, 1), x, tok(api.Semi, "", 2, 1), n, tok(api.Right, "", 0, 0), tok(api.End, "", 0, 0)), list(tok(api.Left, "", 1, 1), x, tok(api.Semi, "", 2, 1), tok(api.Right, "", 0, 0), tok(api.End, "", 0, 0))},
		{list(api.Token{}, b, api.Token{}), list(api.Token{}, api.Token{})},
	} {
		checkBare(t, c.l, c.want)
	}
}

// TestBareKinds has each kind alone, twice, and between others: only two of them are marks.
func TestBareKinds(t *testing.T) {
	x := tok(api.Var, "x", 1, 1)
	for _, kind := range kinds() {
		for _, text := range slices.Concat(openers, reserved, odd) {
			y := tok(kind, text, math.MinInt, math.MaxInt)
			if kind == 16 || kind == 17 { // Begin and Line
				checkBare(t, list(y), nil)
				checkBare(t, list(y, y, x, y), list(x))
				continue
			}
			checkBare(t, list(y), list(y))
			checkBare(t, list(y, y, x, y), list(y, y, x, y))
			checkBare(t, list(begin(1, 1), y, newLine(1, 1), y), list(y, y))
		}
	}
}

func TestBareEverywhere(t *testing.T) {
	toks := list(begin(1, 1), newLine(2, 2), tok(api.Begin, "{", 0, 0), tok(api.Var, "x", 3, 3), tok(api.Semi, "", 4, 4), word("let", 5, 5), api.Token{})
	lists(toks, 6, func(l []api.Token) {
		checkBare(t, l, wantedBare(l))
	})
}

// TestMemory holds that neither call changes its argument, or what lies beyond its length, and that neither shares memory with it.
func TestMemory(t *testing.T) {
	toks := list(word("do", 1, 1), tok(api.Var, "x", 1, 4), tok(api.Text, "\n", 2, 1), punct("{", 3, 1), begin(1, 1), newLine(2, 1))
	junk := tok(-7, "junk", -7, -7)
	for _, call := range []struct {
		name string
		f    func([]api.Token) []api.Token
	}{{"H2: Mark", Mark}, {"H3: Bare", Bare}} {
		lists(toks, 4, func(l []api.Token) {
			whole := slices.Concat(l, slices.Repeat(list(tok(api.Op, "+", 9, 9)), 2*len(l)+3))
			before := slices.Clone(whole)
			first := call.f(whole[:len(l)])
			want := slices.Clone(first)
			first = first[:cap(first)]
			for i := range first {
				first[i] = junk
			}
			if !slices.Equal(whole, before) {
				t.Fatalf("%s changes %s, or shares its memory", call.name, show(before[:len(l)]))
			}
			second := call.f(whole[:len(l)])
			if !slices.Equal(second, want) {
				t.Fatalf("%s of %s is %s at first, and then %s", call.name, show(l), show(want), show(second))
			}
			for i := range whole {
				whole[i] = junk
			}
			if !slices.Equal(second, want) {
				t.Fatalf("%s of %s shares its memory", call.name, show(l))
			}
		})
	}
}

// TestEach ranges over the tokens, also only over some of them.
func TestEach(t *testing.T) {
	l := list(tok(api.Var, "x", 1, 1), word("do", 1, 3), api.Token{}, tok(api.Var, "y", 2, 1))
	for stop := range len(l) + 1 {
		n := 0
		for x, previous := range each(l[:len(l):len(l)]) {
			if n == stop {
				break
			}
			if x != l[n] || (previous == nil) != (n == 0) || n > 0 && *previous != l[n-1] {
				t.Errorf("H2: the token %d is %v, behind %v", n, x, previous)
			}
			n++
		}
		if n != stop {
			t.Errorf("H2: %d tokens, not %d", n, stop)
		}
	}
	for range each(nil) {
		t.Error("H2: a token of none")
	}
}
