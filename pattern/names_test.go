package pattern

import (
	"slices"
	"strings"
	"testing"

	"offside/api"
)

// TestNames has trees below leaves, and below operators, signs and names.
func TestNames(t *testing.T) {
	for _, x := range []struct{ s, names string }{
		// a variable hides what is below it
		{"x⟨y⟩", "x"}, {"x⟨y z⟨a⟩ Ops⟨b⟩⟩", "x"}, {"Head⟨( +⟨y⟩ )⟩", "+"}, {"Head⟨(⟨y⟩ + )⟨z⟩⟩", "+"}, {"Paren⟨( x⟨y⟩ )⟩", "x"}, {"As⟨x⟨y⟩ @ z⟨a⟩⟩", "x z"},
		// any other leaf does not
		{"C⟨x⟩", "x"}, {"M.C⟨x y⟩", "x y"}, {"1⟨x⟩", "x"}, {"1.5⟨x⟩", "x"}, {"'a'⟨x⟩", "x"}, {`"a"⟨x⟩`, "x"}, {"C⟨D⟨E⟨x⟩ y⟩ z⟩", "x y z"}, {"C⟨x⟨y⟩ M.x⟨z⟩⟩", "x z"},
		{"Wild⟨_⟨x⟩⟩", "x"}, {"Head⟨[⟨x⟩ ]⟨y⟩⟩", "x y"}, {"Head⟨(⟨x⟩ ,⟨y⟩ ,⟨Head⟨( + )⟩⟩ )⟨z⟩⟩", "x y + z"}, {"Head⟨(⟨x⟩ :+⟨y⟩ )⟨z⟩⟩", "x y z"}, {"Head⟨( :⟨x⟩ )⟩", "x"},
		{"As⟨x @⟨y⟩ z⟩", "x y z"}, {"Lazy⟨~⟨x⟩ y⟩", "x y"}, {"Paren⟨(⟨x⟩ y )⟨z⟩⟩", "x y z"}, {"Tuple⟨(⟨a⟩ b ,⟨c⟩ d )⟨e⟩⟩", "a b c d e"}, {"List⟨[⟨a⟩ b ,⟨c⟩ d ]⟨e⟩⟩", "a b c d e"},
		{"Record⟨C⟨a⟩ {⟨b⟩ Field⟨f =⟨c⟩ d⟩ ,⟨e⟩ Field⟨M.f = g⟩ }⟨h⟩⟩", "a b c d e g h"}, {"Apply⟨C⟨x⟩ y 1⟨z⟩⟩", "x y z"}, {"Ops⟨1⟨x⟩ Oper⟨:⟩ y⟩", "x y"}, {"Ops⟨Minus⟨-⟩ 1⟨x⟩⟩", "x"},
		// whatever stands below a leaf
		{"C⟨M.x + : Op·x ConOp·y Word·z⟩", ""}, {"C⟨Ops⟨x⟩ Lambda⟨\\ y⟩ Do⟨z⟩ NoNode⟨a⟩ Apply⟨b c⟩⟩", "x y z a b c"}, {"C⟨Head⟨( x )⟩ Head⟨+⟩ Head⟨( M.+ )⟩ Head⟨( - )⟩ Head⟨[ - ]⟩ Head⟨( + y⟩⟩", "x - y"}, {"C⟨Paren⟨x⟩ Paren⟨( +⟨y⟩ )⟩ Tuple⟨( + )⟩⟩", "x y"},
		// operators and signs
		{"Ops⟨x Oper⟨:⟨y⟩⟩ z⟩", "x z"}, {"Ops⟨x Oper⟨`⟨a⟩ C⟨b⟩ `⟨c⟩⟩ z⟩", "x z"}, {"Ops⟨Minus⟨x⟩ 1⟩", ""}, {"Ops⟨Minus⟨-⟨x⟩ Head⟨( + )⟩ C⟨y⟩⟩ 1 Oper⟨:⟩ z⟩", "z"}, {"C⟨Oper⟨x⟩ Oper⟨` x `⟩ Minus⟨y⟩ z⟩", "z"}, {"C⟨Oper⟨Apply⟨C x⟩⟩ Minus⟨Ops⟨Field⟨f x⟩⟩⟩⟩", ""}, {"C⟨Infix⟨x Oper⟨+⟩ y⟩ Negate⟨Minus⟨-⟩ z⟩⟩", "x y z"},
		// fields: their first kid alone, and that alone
		{"Record⟨C { Field⟨f⟨x⟩ = y⟩ }⟩", "y"}, {"Record⟨C { Field⟨M.f⟨x⟩ = y⟩ }⟩", "x y"}, {"Record⟨C { Field⟨M.f⟨f⟨g⟩ Head⟨( + )⟩⟩ = f⟩ }⟩", "f + f"}, {"C⟨Field⟨⟩⟩", ""}, {"C⟨Field⟨x⟩⟩", ""}, {"C⟨Field⟨x y z⟩⟩", "y z"}, {"C⟨Field⟨Head⟨( + )⟩ Head⟨( - )⟩⟩⟩", "-"}, {"C⟨Field⟨Head⟨( x )⟩ y⟩⟩", "x y"}, {"C⟨Field⟨Paren⟨( x )⟩ y⟩⟩", "x y"}, {"C⟨Field⟨Field⟨x y⟩ z⟩⟩", "y z"}, {"C⟨Field⟨C⟨x⟩⟩⟩", "x"}, {"C⟨Field⟨1 x⟩⟩", "x"}, {"C⟨Field⟨= x y⟩⟩", "x y"}, {"C⟨Record⟨x Field⟨y⟩⟩⟩", "x"},
	} {
		check(t, tree(x.s), asPattern(strings.Fields(x.names)...))
		check(t, tree("Paren⟨( "+x.s+" )⟩"), asPattern(strings.Fields(x.names)...))
		check(t, tree("List⟨[ a , "+x.s+" , a ]⟩"), asPattern(slices.Concat([]string{"a"}, strings.Fields(x.names), []string{"a"})...))
	}
	for _, x := range []struct{ s, name string }{
		{"Apply⟨f⟨x⟩ y⟩", "f"}, {"Apply⟨Head⟨( +⟨x⟩ )⟩ y⟩", "+"}, {"Apply⟨Paren⟨(⟨g⟩ Apply⟨f x⟨y⟩⟩ )⟩ C⟨z⟩⟩", "f"}, {"Ops⟨x Oper⟨+⟨f⟩⟩ y⟩", "+"}, {"Ops⟨x Oper⟨`⟨f⟩ g⟨h⟩ `⟩ y⟩", "g"}, {"Ops⟨x⟨f⟩ Oper⟨:⟨g⟩⟩ y Oper⟨-⟩ Minus⟨h⟩ 1⟨i⟩⟩", "-"},
	} {
		check(t, tree(x.s), asFunction(x.name))
	}
	for _, s := range []string{"M.x⟨x⟩", "_⟨x⟩", "Minus⟨x⟩", "Oper⟨x⟩", "Field⟨f = x⟩", "Apply⟨f⟨x⟩⟩", "Apply⟨M.x⟨f⟩ y⟩", "(⟨x⟩", "Op·+⟨x⟩"} {
		check(t, tree(s), answer{})
	}
}

// TestTexts has names of any bytes, and leaves whose texts are of no account.
func TestTexts(t *testing.T) {
	for _, s := range []string{"", "x", "C", "M.x", "case", "_", "é\x00", "\xff\xfe", "+", "(", ":", "a b", strings.Repeat("x", 100000)} {
		v, op := leaf(api.Var, s), leaf(api.Op, s)
		open, shut, quote := leaf(api.Punct, "("), leaf(api.Punct, ")"), leaf(api.Punct, "`")
		x, cons := leaf(api.Var, "x"), leaf(api.Con, "C")
		check(t, v, asPattern(s))
		check(t, node(api.Head, open, op, shut), asPattern(s))
		check(t, node(api.As, v, leaf(api.Mark, "@"), v), asPattern(s, s))
		check(t, node(api.Apply, v, x), asFunction(s))
		check(t, node(api.Apply, node(api.Head, open, op, shut), x), asFunction(s))
		check(t, node(api.Ops, x, node(api.Oper, op), x), asFunction(s))
		check(t, node(api.Ops, x, node(api.Oper, quote, v, quote), x), asFunction(s))
		for _, form := range []int{api.Con, api.QCon, api.Int, api.Float, api.Char, api.Text} {
			check(t, leaf(form, s), asPattern())
		}
		for _, form := range []int{api.Con, api.QCon} {
			check(t, node(api.Apply, leaf(form, s), x), asPattern("x"))
			check(t, node(api.Ops, x, node(api.Oper, quote, leaf(form, s), quote), x), asPattern("x", "x"))
		}
		for _, form := range []int{api.ConOp, api.QConOp} {
			check(t, node(api.Head, open, leaf(form, s), shut), asPattern())
			check(t, node(api.Ops, x, node(api.Oper, leaf(form, s)), x), asPattern("x", "x"))
		}
		for _, form := range []int{api.Var, api.QVar} {
			field := node(api.Field, leaf(form, s), leaf(api.Mark, "="), v)
			check(t, node(api.Record, cons, leaf(api.Punct, "{"), field, leaf(api.Punct, "}")), asPattern(s))
		}
		for _, form := range []int{api.Int, api.Float} {
			check(t, node(api.Ops, node(api.Minus), leaf(form, s)), asPattern())
		}
	}
}

// TestFields has that a tree's Form and Text count of a leaf alone, and its place nowhere.
func TestFields(t *testing.T) {
	var strange func(n api.Node, k int) api.Node
	strange = func(n api.Node, k int) api.Node {
		n.Line, n.Col = k-3, least+k
		if n.Kind != api.Leaf {
			n.Form, n.Text = k%22, []string{"x", "(", "_", ""}[k%4]
		}
		kids := n.Kids
		n.Kids = nil
		for i, kid := range kids {
			n.Kids = append(n.Kids, strange(kid, k+i+1))
		}
		return n
	}
	for k := range 5 {
		for _, x := range patterns {
			check(t, strange(tree(x.s), k), asPattern(strings.Fields(x.names)...))
		}
		for _, x := range functions {
			check(t, strange(tree(x.s), k), asFunction(x.name))
		}
		for _, s := range neither {
			check(t, strange(tree(s), k), answer{})
		}
	}
}

// TestTheorem has M4: brackets around the trees of all tables.
func TestTheorem(t *testing.T) {
	var all []string
	for _, x := range patterns {
		all = append(all, x.s)
	}
	for _, x := range functions {
		all = append(all, x.s)
	}
	all = append(all, neither...)
	for i, s := range all {
		checkTheorem(t, tree(s), tree(all[(i*7+1)%len(all)]), tree(all[i*5%len(patterns)]))
		checkTheorem(t, tree(all[i*3%len(patterns)]), tree(all[i*5%len(patterns)]), tree(s))
		checkTheorem(t, tree(all[i%len(patterns)]), tree(all[(i*11+2)%len(patterns)]), tree(all[(i*13+5)%len(patterns)]))
	}
}

// checkTheorem holds M4 for these trees: all of them, the first two, the first one.
func checkTheorem(t *testing.T, l ...api.Node) {
	t.Helper()
	open, shut := leaf(api.Punct, "("), leaf(api.Punct, ")")
	e, names := api.OK, []string(nil)
	inside := []api.Node{}
	for i, n := range l {
		its, err := Names(n)
		if err != api.OK {
			e = err
		}
		names = append(names, its...)
		if i > 0 {
			inside = append(inside, leaf(api.Punct, ","))
		}
		inside = append(inside, n)
		around := []api.Node{node(api.List, slices.Concat([]api.Node{leaf(api.Punct, "[")}, inside, []api.Node{leaf(api.Punct, "]")})...)}
		brackets := slices.Concat([]api.Node{open}, inside, []api.Node{shut})
		if i == 0 {
			around = append(around, node(api.Paren, brackets...))
		} else {
			around = append(around, node(api.Tuple, brackets...))
		}
		for _, a := range around {
			got, err := Names(a)
			if want := names; err != e || Check(a) != e || e == api.OK && !slices.Equal(got, want) || e != api.OK && len(got) > 0 {
				t.Fatalf("M4: Names(%s) = %q, %d, not %q, %d", brief(a), got, err, want, e)
			}
		}
	}
}
