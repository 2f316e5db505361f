package pattern

import (
	"slices"
	"testing"

	"offside/api"
)

// many is how many trees stand in one another, or beside one another: as many as may, so that what costs each time as much as all below would not end in time.
const many = 1 << 16

// nest puts the tree between what stands ahead of it and behind it, again and again.
func nest(n api.Node, times, kind int, ahead, behind []api.Node) api.Node {
	for range times {
		n = api.Node{Kind: kind, Kids: slices.Concat(ahead, []api.Node{n}, behind)}
	}
	return n
}

// TestDeep has each form that may stand in itself nested as deep as trees may be; and the same around what is no pattern.
func TestDeep(t *testing.T) {
	x, bad := tree("x"), tree("M.x")
	names := []string{"x"}
	for _, form := range []struct {
		kind          int
		ahead, behind []api.Node
		names         int // how many names stand beside it
	}{
		{api.Paren, trees("("), trees(")"), 0}, {api.Tuple, trees("(", "1", ","), trees(")"), 0}, {api.Tuple, trees("("), trees(",", "1", ")"), 0}, {api.List, trees("["), trees("]"), 0}, {api.List, trees("[", "1", ","), trees(",", "C", "]"), 0}, {api.Lazy, trees("~"), nil, 0},
	} {
		compare(t, nest(x, many-1, form.kind, form.ahead, form.behind), asPattern(names...))
		compare(t, nest(bad, many-1, form.kind, form.ahead, form.behind), answer{})
	}
	as := make([]string, many)
	for i := range as {
		as[i] = "x"
	}
	compare(t, nest(x, many-1, api.As, trees("x", "@"), nil), asPattern(as...))
	compare(t, nest(bad, many-1, api.As, trees("x", "@"), nil), answer{})
	for _, first := range []api.Node{x, bad} {
		n, m, o := first, first, first
		for range many/2 - 1 {
			n = node(api.Record, tree("C"), tree("{"), node(api.Field, tree("f"), tree("="), n), tree("}"))
			m = node(api.Apply, tree("C"), node(api.Paren, tree("("), m, tree(")")))
			o = node(api.Ops, tree("1"), tree("Oper⟨:⟩"), node(api.List, tree("["), o, tree("]")))
		}
		want := asPattern(names...)
		if first.Text == bad.Text {
			want = answer{}
		}
		compare(t, n, want)
		compare(t, m, want)
		compare(t, o, want)
	}
	compare(t, nest(x, many-1, api.Ops, trees("1", "Oper⟨:⟩"), nil), answer{})
	compare(t, nest(x, many-1, api.Apply, trees("C"), nil), answer{})
	compare(t, nest(x, many-1, api.Head, trees("("), trees(")")), answer{})
}

// TestDeepFunctions has left-hand sides in ever more parentheses.
func TestDeepFunctions(t *testing.T) {
	for _, x := range []struct {
		s    string
		want answer
	}{
		{"Apply⟨f x⟩", asFunction("f")}, {"Ops⟨x Oper⟨+⟩ y⟩", asFunction("+")}, {"Ops⟨x Oper⟨:⟩ y⟩", answer{}}, {"f", answer{}}, {"Apply⟨f M.x⟩", answer{}},
	} {
		n := tree(x.s)
		for range many/2 - 1 {
			n = node(api.Apply, node(api.Paren, tree("("), n, tree(")")), tree("y"))
		}
		compare(t, n, x.want)
		compare(t, nest(tree(x.s), many-1, api.Paren, trees("("), trees(")")), asInside(x.s))
	}
}

// asInside is what a tree is in many parentheses.
func asInside(s string) answer {
	n := tree(s)
	if Check(n) != api.OK {
		return answer{}
	}
	names, _ := Names(n)
	return asPattern(names...)
}

// TestDeepLeaves has trees below leaves, as deep as they may be.
func TestDeepLeaves(t *testing.T) {
	for _, kind := range []int{api.Leaf, api.Do, api.NoNode, api.Field, api.Apply, -5, most} {
		below := nest(tree("x"), many-2, kind, nil, nil)
		c := tree("C")
		c.Kids = []api.Node{below}
		want := asPattern("x")
		if kind == api.Field { // x is its first kid
			want = asPattern()
		}
		compare(t, c, want)
		v := tree("y")
		v.Kids = []api.Node{below}
		compare(t, v, asPattern("y"))
	}
	c := tree("C")
	c.Kids = []api.Node{nest(tree("x"), many-2, api.Minus, nil, nil)}
	compare(t, c, asPattern())
}

// TestWide has trees with many kids.
func TestWide(t *testing.T) {
	repeat := func(kind int, first string, more string, last string) api.Node {
		return node(kind, slices.Concat(words(first), slices.Repeat(words(more), many), words(last))...)
	}
	names := func(n int, s string) []string { return slices.Repeat([]string{s}, n) }
	for _, x := range []struct {
		n    api.Node
		want answer
	}{
		{repeat(api.Head, "(", ",", ")"), asPattern()}, {repeat(api.Head, "(", ",", "x )"), answer{}}, {repeat(api.Head, "( +", ",", ")"), answer{}},
		{repeat(api.Tuple, "( x", ", x", ")"), asPattern(names(many+1, "x")...)}, {repeat(api.Tuple, "( x", ", x", ", )"), answer{}}, {repeat(api.List, "[ x", ", x", "]"), asPattern(names(many+1, "x")...)}, {repeat(api.List, "[ x", ", x", ", M.x ]"), answer{}},
		{repeat(api.Apply, "C", "x", ""), asPattern(names(many, "x")...)}, {repeat(api.Apply, "f", "x", ""), asFunction("f")}, {repeat(api.Apply, "f", "x", "M.x"), answer{}}, {repeat(api.Apply, "M.f", "x", ""), answer{}},
		{repeat(api.Ops, "x", "Oper⟨:⟩ x", ""), asPattern(names(many+1, "x")...)}, {repeat(api.Ops, "x", "Oper⟨:⟩ x", "Oper⟨:⟩"), answer{}}, {repeat(api.Ops, "x", "Oper⟨:⟩ x", "Oper⟨+⟩ y"), asFunction("+")}, {repeat(api.Ops, "x Oper⟨+⟩ x", "Oper⟨:⟩ x", ""), asFunction("+")}, {repeat(api.Ops, "x", "Oper⟨+⟩ x", ""), answer{}}, {repeat(api.Ops, "Minus⟨-⟩ 1", "Oper⟨:⟩ Minus⟨-⟩ 1", ""), asPattern()}, {repeat(api.Ops, "", "Minus⟨-⟩", "1"), answer{}}, {repeat(api.Ops, "", "Oper⟨+⟩", ""), answer{}},
		{repeat(api.Ops, "x Oper⟨:⟩ y", "Oper⟨+⟩", "x"), answer{}}, {repeat(api.Record, "C { Field⟨f = x⟩", ", Field⟨f = x⟩", "}"), asPattern(names(many+1, "x")...)}, {repeat(api.Record, "C { Field⟨f = x⟩", ", Field⟨f = x⟩", ", }"), answer{}},
	} {
		compare(t, x.n, x.want)
	}
}

// words reads trees that stand beside one another.
func words(s string) []api.Node { return tree("Do⟨" + s + "⟩").Kids }

// TestMixed has a row whose first part is large ahead of many bindable operators: it is looked at once, not once for each of them.
func TestMixed(t *testing.T) {
	large := node(api.List, slices.Concat(words("[ x"), slices.Repeat(words(", x"), many), words("]"))...)
	compare(t, node(api.Ops, slices.Concat([]api.Node{large}, slices.Repeat(words("Oper⟨+⟩ x"), many))...), answer{})
	compare(t, node(api.Ops, large, tree("Oper⟨+⟩"), large), asFunction("+"))
}

// TestZero has trees with nothing in them, and numbers far outside.
func TestZero(t *testing.T) {
	check(t, api.Node{}, answer{})
	check(t, api.Node{Kind: api.Leaf}, answer{})
	for _, k := range []int{least, -1, api.Nodes, api.Nodes + 1, most} {
		check(t, api.Node{Kind: k}, answer{})
		check(t, api.Node{Kind: k, Form: api.Var, Text: "x"}, answer{})
		check(t, leaf(k, "x"), answer{})
		check(t, api.Node{Kind: k, Kids: words("( x )")}, answer{})
	}
	for kind := range api.Nodes {
		check(t, api.Node{Kind: kind, Form: api.Op, Text: "x"}, answer{})
		check(t, api.Node{Kind: kind, Kids: []api.Node{{}}}, answer{})
		check(t, api.Node{Kind: kind, Kids: make([]api.Node, 3)}, answer{})
	}
}
