package layout

import (
	"math/rand"
	"slices"
	"testing"

	"offside/api"
)

// lists calls f with every list of up to n of the tokens. The list is the same memory each time.
func lists(parts []api.Token, n int, f func(l []api.Token)) {
	l := make([]api.Token, 0, n)
	var fill func()
	fill = func() {
		f(l)
		if len(l) == n {
			return
		}
		for _, x := range parts {
			x.Line = len(l) + 1
			l = append(l, x)
			fill()
			l = l[:len(l)-1]
		}
	}
	fill()
}

// parts are tokens of all the rows of I2.
func parts() []api.Token {
	var out []api.Token
	for _, col := range []int{-1, 0, 2, 3, 5} {
		out = append(out, api.Token{Kind: api.Begin, Col: col}, api.Token{Kind: api.Line, Col: col})
	}
	return append(out, api.Token{Kind: api.Punct, Text: "{"}, api.Token{Kind: api.Punct, Text: "}"}, api.Token{Kind: api.Var, Text: "}", Col: 3}, api.Token{Kind: api.Text, Text: "{", Col: 9},
		api.Token{Kind: api.Left}, api.Token{Kind: api.Right, Text: "x"}, api.Token{Kind: api.End, Text: "x", Col: 1}, api.Token{Kind: -5})
}

// every calls f with every state of the tokens with those blocks, valid or not.
func every(l []api.Token, opens [][]int, f func(s api.State)) {
	for _, open := range opens {
		for at := -1; at <= len(l)+1; at++ {
			for wait := -1; wait <= 3; wait++ {
				f(api.State{Toks: l, At: at, Open: open, Wait: wait})
			}
		}
	}
}

// checkStep holds Next and Close of s against their second readings.
func checkStep(t *testing.T, s api.State) {
	t.Helper()
	tok, after, e := wantedNext(s)
	checkNext(t, s, tok, after, e)
	closed, ok := wantedClose(s)
	checkClose(t, s, closed, ok)
}

func TestEveryState(t *testing.T) {
	opens := [][]int{nil, {}, {0}, {2}, {3}, {5}, {4, 0}, {0, 4}, {2, 3}, {5, 3}, {3, 3}, {0, 0}, {2, 0, 3}, {-1}, {3, -1}, {-2, 3, 0}, {least, 0}}
	held := 0
	lists(parts(), 2, func(l []api.Token) {
		every(l, opens, func(s api.State) {
			held++
			checkStep(t, s)
		})
	})
	few := []api.Token{{Kind: api.Begin, Col: 3}, {Kind: api.Line, Col: 3}, {Kind: api.Line, Col: 2}, {Kind: api.Punct, Text: "}"}, {Kind: api.Var}}
	lists(few, 4, func(l []api.Token) {
		every(l, [][]int{nil, {0}, {2}, {3}, {4}, {0, 3}, {3, 0}, {3, 4}}, func(s api.State) {
			held++
			checkStep(t, s)
		})
	})
	if held < 200000 {
		t.Errorf("I2: only %d states", held)
	}
}

func TestAllEverywhere(t *testing.T) {
	held := 0
	hold := func(l []api.Token) {
		held++
		checkReport(t, l)
	}
	lists(parts(), 4, hold)
	few := []api.Token{{Kind: api.Begin, Col: 2}, {Kind: api.Begin, Col: 3}, {Kind: api.Line, Col: 2}, {Kind: api.Line, Col: 3}, {Kind: api.Punct, Text: "{"}, {Kind: api.Punct, Text: "}"}, {Kind: api.Var, Text: "x"}}
	lists(few, 6, hold)
	if held < 200000 {
		t.Errorf("I4: only %d lists", held)
	}
}

// anyToken returns a token of any kind, text and place; one in two is one of the rows of I2.
func anyToken(r *rand.Rand, all []int) api.Token {
	ends := []int{least, least + 1, most, most - 1, -1}
	x := api.Token{Kind: all[r.Intn(len(all))], Text: texts[r.Intn(len(texts))], Line: int(r.Uint64()), Col: r.Intn(9) - 1}
	if r.Intn(20) == 0 {
		x.Line, x.Col = ends[r.Intn(len(ends))], ends[r.Intn(len(ends))]
	}
	switch r.Intn(8) {
	case 0:
		x.Kind = api.Begin
	case 1, 2:
		x.Kind = api.Line
	case 3:
		x.Kind = api.Punct
	case 4:
		x.Kind, x.Text = api.Punct, "}"
	}
	return x
}

// TestAnyTokens has long lists of tokens of any kinds, texts and places, and states of them, from a source that is the same each time.
func TestAnyTokens(t *testing.T) {
	r := rand.New(rand.NewSource(9))
	all := kinds()
	for range 8000 {
		l := make([]api.Token, r.Intn(40))
		for i := range l {
			l[i] = anyToken(r, all)
		}
		checkReport(t, l)
		s := api.State{Toks: l, At: r.Intn(len(l) + 1), Open: make([]int, r.Intn(6))}
		for i := range s.Open {
			s.Open[i] = r.Intn(8)
		}
		if s.At < len(l) && l[s.At].Kind == api.Begin {
			s.Wait = r.Intn(3)
		}
		for range 30 { // from a valid state on, with a Close here and there
			checkStep(t, s)
			after, ok := api.State{}, false
			if r.Intn(3) == 0 {
				after, ok = Close(s)
			}
			if !ok {
				_, after, _ = Next(s)
			}
			s = after
		}
	}
}

// TestNotKept holds two states that came of one: what is done with one of them changes nothing in the other.
func TestNotKept(t *testing.T) {
	l := toks("{ {7} {8} x <7> { }")
	s := at(0, 0, 1, 2).in(l)
	s.Open = slices.Grow(s.Open, 10)
	_, a, _ := Next(s)
	first := slices.Clone(a.Open)
	_, b, _ := Next(at(1, 0, 1, 2).in(l))
	c, _ := Close(s)
	_, d, _ := Next(c)
	_, f, _ := Next(api.State{Toks: l, At: 1, Open: c.Open})
	_, g, _ := Next(api.State{Toks: l, At: 2, Open: a.Open})
	_, h, _ := Next(api.State{Toks: l, At: 5, Open: a.Open})
	for _, x := range []struct {
		name      string
		got, want []int
	}{
		{"s", s.Open, []int{1, 2}}, {"first", first, []int{1, 2, 0}}, {"a", a.Open, []int{1, 2, 0}}, {"b", b.Open, []int{1, 2, 7}}, {"c", c.Open, []int{1}}, {"d", d.Open, []int{1, 0}}, {"f", f.Open, []int{1, 7}}, {"g", g.Open, []int{1, 2, 0, 8}}, {"h", h.Open, []int{1, 2, 0, 0}},
	} {
		if !slices.Equal(x.got, x.want) {
			t.Errorf("R3: %s has the blocks %v, not %v", x.name, x.got, x.want)
		}
	}
}
