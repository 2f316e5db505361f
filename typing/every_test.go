package typing

import (
	"math/rand"
	"slices"
	"testing"

	"offside/api"
	"offside/layout"
	"offside/lexer"
	"offside/tree"
)

// lists calls f with every list of up to n of the tokens. The list is the same memory each time.
func lists(parts []api.Token, n int, f func(l []api.Token)) {
	l := make([]api.Token, 0, n)
	var fill func()
	fill = func() {
		f(l)
		if len(l) == n {
			return
		}
		for _, x := range parts {
			x.Line = len(l) + 1
			l = append(l, x)
			fill()
			l = l[:len(l)-1]
		}
	}
	fill()
}

// checkSecond holds a call against the second reading, and what it took against the tree's leaves.
func checkSecond(t *testing.T, f form, s api.State, deep int) (api.Node, api.State, api.Errno) {
	t.Helper()
	want, stands, wantedErr := wanted(f, s, deep)
	n, after, e := f.call(s, deep)
	if !same(n, want) || !equal(after, stands) || e != wantedErr {
		t.Fatalf("%s(%s, %d) = %s, %s, %d; not %s, %s, %d", f.name, show(s), deep, brief(n), show(after), e, brief(want), show(stands), wantedErr)
	}
	if e == api.OK {
		checkPlain(t, n)
		if got, want := tree.Leaves(n), passed(s, after); !slices.Equal(got, want) {
			t.Fatalf("L5: %s(%s) passes %v, not %v", f.name, show(s), want, got)
		}
	}
	return n, after, e
}

// passed returns the tokens of Next from one state to another.
func passed(s, after api.State) []api.Token {
	var out []api.Token
	for !equal(s, after) {
		x, next, e := layout.Next(s)
		if e != api.OK || x.Kind == api.End {
			return append(out, api.Token{Text: "the state is never reached"})
		}
		out, s = append(out, x), next
	}
	return out
}

// checkPlain holds that only leaves have a Form, a text, a line or a column, and that only other nodes have kids.
func checkPlain(t *testing.T, n api.Node) {
	t.Helper()
	if n.Kind == api.Leaf && len(n.Kids) > 0 || n.Kind != api.Leaf && (n.Form != 0 || n.Text != "" || n.Line != 0 || n.Col != 0 || len(n.Kids) < 2) {
		t.Fatalf("R2: the node %v has what it may not have", n)
	}
	for _, k := range n.Kids {
		checkPlain(t, k)
	}
}

func TestEveryList(t *testing.T) {
	held, good := 0, 0
	hold := func(s api.State, deeps ...int) {
		for _, f := range forms {
			for _, deep := range deeps {
				held++
				if _, _, e := checkSecond(t, f, s, deep); e == api.OK {
					good++
				}
			}
		}
	}
	lists(toks("a ( ) , -> [ ] => ="), 4, func(l []api.Token) { hold(api.State{Toks: l}, 0, 1, 2, 3) })
	lists(toks("a ( ) , -> [ ] =>"), 5, func(l []api.Token) { hold(api.State{Toks: l}, 2, 3) })
	lists(toks("a ( ) , ]"), 7, func(l []api.Token) {
		if len(l) > 5 {
			hold(api.State{Toks: l}, 4)
		}
	})
	lists(toks("a ( ) -> =>"), 7, func(l []api.Token) {
		if len(l) > 5 {
			hold(api.State{Toks: l}, 9)
		}
	})
	if held < 500000 || good < 100000 {
		t.Errorf("only %d calls, %d without an error", held, good)
	}
}

// TestEveryLayout has marks and braces among the tokens of a type, with blocks open or not.
func TestEveryLayout(t *testing.T) {
	opens := [][]int{nil, {0}, {2}, {3}, {4, 0}, {0, 3}, {2, 3}, {0, 0}}
	lists(toks("a ( ) -> } { {3} <3> <2>"), 4, func(l []api.Token) {
		for _, open := range opens {
			for _, f := range forms {
				checkSecond(t, f, api.State{Toks: l, Open: open}, 2)
			}
		}
	})
	lists(toks("a [ ] => } {3} <3>"), 4, func(l []api.Token) {
		for at, x := range l {
			for wait := range 3 {
				if wait == 0 || x.Kind == api.Begin {
					for _, open := range opens {
						checkSecond(t, full, api.State{Toks: l, At: at, Open: open, Wait: wait}, 9)
						checkSecond(t, row, api.State{Toks: l, At: at, Open: open, Wait: wait}, 1)
					}
				}
			}
		}
	})
}

// TestRandomStates has tokens of all kinds and texts, and states of all kinds, valid or not.
func TestRandomStates(t *testing.T) {
	r := rand.New(rand.NewSource(11))
	some := toks("a b A M.A M.b ( ( ( ) ) ) , , -> -> [ [ ] ] => => = { } {0} {3} {5} <0> <2> <3> <9> 1 '-> '( ; where")
	all := kinds()
	errs := map[api.Errno]int{}
	for range 300000 {
		s := api.State{Wait: max(0, r.Intn(30)-27)}
		for range r.Intn(14) {
			x := some[r.Intn(len(some))]
			if r.Intn(40) == 0 {
				x = api.Token{Kind: all[r.Intn(len(all))], Text: texts[r.Intn(len(texts))], Col: r.Intn(9) - 3}
			}
			x.Line = r.Intn(1000) - 10
			s.Toks = append(s.Toks, x)
		}
		for range r.Intn(4) {
			s.Open = append(s.Open, r.Intn(5))
		}
		if r.Intn(50) == 0 {
			s.Open = append(s.Open, r.Intn(5)-3)
		}
		if r.Intn(3) == 0 {
			s.At = r.Intn(len(s.Toks)+3) - 1
		}
		given := roomy(s)
		_, _, e := checkSecond(t, forms[r.Intn(4)], given, r.Intn(7)-1)
		errs[e]++
		checkRoom(t, given, s)
	}
	for _, e := range []api.Errno{api.OK, api.ErrArg, api.ErrDeep, api.ErrSyntax, api.ErrClose} {
		if errs[e] < 1000 {
			t.Errorf("the error %d only %d times", e, errs[e])
		}
	}
}

// A maker makes types of any form, and their tokens.
type maker struct {
	r    *rand.Rand
	toks []api.Token
}

// put makes a leaf.
func (m *maker) put(s string) api.Node {
	x := word(s)
	x.Line, x.Col = m.r.Intn(100), m.r.Intn(100)
	m.toks = append(m.toks, x)
	return leaf(x)
}

func (m *maker) puts(kind int, l ...string) api.Node {
	n := api.Node{Kind: kind}
	for _, s := range l {
		n.Kids = append(n.Kids, m.put(s))
	}
	return n
}

// atom makes an atom with at most deep levels; size is about how many others it may have.
func (m *maker) atom(deep, size int) api.Node {
	switch c := m.r.Intn(13); {
	case c == 0:
		return m.puts(api.Head, "(", ")")
	case c == 1:
		return m.puts(api.Head, slices.Concat([]string{"("}, slices.Repeat([]string{","}, 1+m.r.Intn(4)), []string{")"})...)
	case c == 2:
		return m.puts(api.Head, "(", "->", ")")
	case c == 3:
		return m.puts(api.Head, "[", "]")
	case c <= 6 || deep < 2 || size < 1:
		return m.put([]string{"a", "b'", "x_1", "A", "B'", "Maybe", "M.A", "M.N.B'", "as", "hiding", "qualified"}[m.r.Intn(11)])
	case c <= 8:
		return api.Node{Kind: api.List, Kids: []api.Node{m.put("["), m.arrow(deep-1, size-1), m.put("]")}}
	case c <= 10:
		return api.Node{Kind: api.Paren, Kids: []api.Node{m.put("("), m.arrow(deep-1, size-1), m.put(")")}}
	}
	n := api.Node{Kind: api.Tuple, Kids: []api.Node{m.put("("), m.arrow(deep-1, size/2)}}
	for range 1 + m.r.Intn(3) {
		n.Kids = append(n.Kids, m.put(","), m.arrow(deep-1, size/2))
	}
	n.Kids = append(n.Kids, m.put(")"))
	return n
}

func (m *maker) row(deep, size int) api.Node {
	parts := []api.Node{m.atom(deep, size)}
	for m.r.Intn(3) == 0 {
		parts = append(parts, m.atom(deep, size/2))
	}
	return reduced(api.TApply, parts)
}

func (m *maker) arrow(deep, size int) api.Node {
	parts := []api.Node{m.row(deep, size)}
	for m.r.Intn(3) == 0 {
		parts = append(parts, m.put("->"), m.row(deep, size/2))
	}
	return reduced(api.Arrow, parts)
}

func (m *maker) full(deep, size int) api.Node {
	if m.r.Intn(2) == 0 {
		return m.arrow(deep, size)
	}
	return api.Node{Kind: api.Qual, Kids: []api.Node{m.row(deep, size), m.put("=>"), m.arrow(deep, size)}}
}

// levels is the least depth with which a type can be parsed.
func levels(n api.Node) int {
	inside := 0
	for _, k := range n.Kids {
		inside = max(inside, levels(k))
	}
	if n.Kind == api.Paren || n.Kind == api.Tuple || n.Kind == api.List {
		return inside + 1
	}
	return max(inside, 1)
}

// TestMade has types whose trees are known, and that tell how deep they are; what follows them, and what they are once they are spelt and lexed again.
func TestMade(t *testing.T) {
	r := rand.New(rand.NewSource(5))
	ends := toks(") ] , ; = } | :: where 1 '+ M.b `")
	deepest := 0
	for range 10000 {
		m := &maker{r: r}
		which := r.Intn(4)
		want := []func(deep, size int) api.Node{m.atom, m.row, m.arrow, m.full}[which](1+r.Intn(12), r.Intn(25))
		f := forms[which]
		s := api.State{Toks: m.toks}
		need := levels(want)
		deepest = max(deepest, need)
		for _, deep := range []int{need, need + 1, 100, most} {
			check(t, f, s, deep, want, moved(s, len(m.toks)), api.OK)
		}
		if n, _, e := checkSecond(t, f, s, need-1); e != api.ErrDeep || !same(n, api.Node{}) {
			t.Fatalf("%s(%s, %d) is %s, %d", f.name, show(s), need-1, brief(n), e)
		}
		longer := api.State{Toks: append(slices.Clone(m.toks), ends[r.Intn(len(ends))], ends[r.Intn(len(ends))])}
		check(t, f, longer, need, want, moved(longer, len(m.toks)), api.OK)
		checkAgain(t, f, want, need)
		shorter := api.State{Toks: m.toks[:r.Intn(len(m.toks))]}
		checkSecond(t, f, shorter, need)
	}
	if deepest < 8 {
		t.Errorf("only %d levels", deepest)
	}
}

// checkAgain holds that the spelt leaves of a tree are parsed as that tree.
func checkAgain(t *testing.T, f form, n api.Node, deep int) {
	t.Helper()
	spelt := lexer.Spell(tree.Leaves(n))
	l, _, _, e := lexer.Lex(spelt)
	if e != api.OK {
		t.Fatalf("L5: %q is no text: %d", spelt, e)
	}
	got, after, e := f.call(api.State{Toks: l}, deep)
	if !tree.Same(got, n) || after.At != len(l) || e != api.OK {
		t.Fatalf("L5: %s: %q is %s, %d of %d, %d", f.name, spelt, brief(got), after.At, len(l), e)
	}
}

// TestTheorem has L5 for what is parsed of rows of lexemes, whatever follows it, and with marks among them.
func TestTheorem(t *testing.T) {
	r := rand.New(rand.NewSource(3))
	some := toks("a b A A M.A M.b ( ( ( ( ) ) ) ) , -> -> [ [ ] ] => = 1 '+ ; where { } <3> <9> {4}")
	good := 0
	for range 200000 {
		s := api.State{Open: []int{0, 1}[:r.Intn(3)]}
		for range 1 + r.Intn(12) {
			x := some[r.Intn(len(some))]
			x.Line = r.Intn(100)
			s.Toks = append(s.Toks, x)
		}
		f := forms[r.Intn(4)]
		if n, _, e := checkSecond(t, f, s, 9); e == api.OK {
			good++
			checkAgain(t, f, n, 9)
		}
	}
	if good < 20000 {
		t.Errorf("only %d types", good)
	}
}
