package pattern

import (
	"math/rand"
	"slices"
	"strings"
	"testing"

	"offside/api"
)

// TestSecond holds the second reading against the tables, which are written by hand.
func TestSecond(t *testing.T) {
	hold := func(s string, want answer) {
		if got := wanted(tree(s)); got.kind != want.kind || got.name != want.name || !slices.Equal(got.names, want.names) {
			t.Errorf("the second reading of %s is %v, not %v", s, got, want)
		}
	}
	for _, x := range patterns {
		hold(x.s, asPattern(strings.Fields(x.names)...))
	}
	for _, x := range functions {
		hold(x.s, asFunction(x.name))
	}
	for _, s := range neither {
		hold(s, answer{})
	}
}

// parts has trees of each kind that the chapter tells apart, and a few that are nearly so.
var parts = trees("x", "M.x", "C", "+", ":", ":+", "M.+", "1", "1.5", "'a'", "_", "@", "~", "=", "(", ")", "[", "]", "{", "}", ",", "`", "Op·,", "Word·:",
	"Wild⟨_⟩", "Head⟨( + )⟩", "Head⟨( : )⟩", "Head⟨( )⟩", "Paren⟨( x )⟩", "Paren⟨( Apply⟨f x⟩ )⟩", "Apply⟨C x⟩", "Apply⟨f x⟩", "Ops⟨x Oper⟨:⟩ y⟩", "Ops⟨x Oper⟨+⟩ y⟩", "Oper⟨:⟩", "Oper⟨+⟩", "Oper⟨` f `⟩", "Minus⟨-⟩", "Field⟨f = x⟩", "Field⟨f⟩", "Ops⟨x⟩", "x⟨y⟩", "C⟨y⟩")

func trees(l ...string) []api.Node {
	var out []api.Node
	for _, s := range l {
		out = append(out, tree(s))
	}
	return out
}

// eachList visits all lists of n of these trees.
func eachList(of []api.Node, n int, visit func([]api.Node)) {
	l := make([]api.Node, n)
	var fill func(at int)
	fill = func(at int) {
		if at == n {
			visit(l)
			return
		}
		for _, x := range of {
			l[at] = x
			fill(at + 1)
		}
	}
	fill(0)
}

// compare is check without the copies, which cost more than the calls.
func compare(t *testing.T, n api.Node, want answer) {
	t.Helper()
	pat := Check(n)
	kind, name, lhs := Lhs(n)
	names, e := Names(n)
	is, has := api.ErrForm, api.ErrForm
	if want.kind == Pattern {
		is = api.OK
	}
	if want.kind != None {
		has = api.OK
	}
	if pat != is || kind != want.kind || name != want.name || lhs != has || e != is || !slices.Equal(names, want.names) {
		t.Fatalf("M1 to M3: %s is %d; %d, %q, %d; %q, %d, not %v", brief(n), pat, kind, name, lhs, names, e, want)
	}
}

// TestEveryList has each kind of tree with all small lists of kids.
func TestEveryList(t *testing.T) {
	for kind := -1; kind <= api.Nodes; kind++ {
		for n := range 4 {
			of := parts
			if n == 3 && rules[kind] == nil {
				of = parts[:20]
			}
			eachList(of, n, func(l []api.Node) {
				x := api.Node{Kind: kind, Kids: l}
				compare(t, x, wanted(x))
			})
		}
	}
}

// TestLongLists has longer lists, of what a tree of the kind is made of and a little more.
func TestLongLists(t *testing.T) {
	for _, x := range []struct {
		kind, longest int
		of            []api.Node
	}{
		{api.Head, 6, trees("(", ")", ",", "+", "[", "]")}, {api.Wild, 5, trees("_", "x")}, {api.As, 5, trees("x", "@", "C", "Apply⟨C x⟩", "M.x")}, {api.Lazy, 5, trees("~", "x", "C", "M.x")},
		{api.Paren, 7, trees("(", ")", ",", "x", "M.x")}, {api.Tuple, 8, trees("(", ")", ",", "x", "M.x")}, {api.List, 8, trees("[", "]", ",", "x", "M.x")}, {api.Record, 8, trees("C", "{", "}", ",", "Field⟨f = x⟩")}, {api.Field, 5, trees("x", "M.x", "=", "C")},
		{api.Apply, 6, trees("C", "x", "Paren⟨( Apply⟨f x⟩ )⟩", "Head⟨( + )⟩", "Apply⟨C x⟩", "Ops⟨x Oper⟨:⟩ y⟩", "M.x")}, {api.Oper, 6, trees("`", "C", "x", "+", ":")},
		{api.Ops, 7, trees("x", "Oper⟨:⟩", "Oper⟨+⟩", "Minus⟨-⟩", "1")}, {api.Ops, 6, trees("Apply⟨C x⟩", "Oper⟨` C `⟩", "Oper⟨` f `⟩", "Minus⟨-⟩", "1.5", "Ops⟨x Oper⟨:⟩ y⟩")}, {api.Ops, 9, trees("1", "Oper⟨:⟩", "Minus⟨-⟩")},
	} {
		for n := 4; n <= x.longest; n++ {
			eachList(x.of, n, func(l []api.Node) {
				n := api.Node{Kind: x.kind, Kids: l}
				if x.kind == api.Oper || x.kind == api.Field {
					n = around(n)
				}
				compare(t, n, wanted(n))
			})
		}
	}
}

// around puts an operator or a field where it may stand.
func around(n api.Node) api.Node {
	if n.Kind == api.Field {
		return node(api.Record, leaf(api.Con, "C"), leaf(api.Punct, "{"), n, leaf(api.Punct, "}"))
	}
	return node(api.Ops, leaf(api.Var, "x"), n, leaf(api.Var, "y"))
}

// TestOperators has all small operators and fields where they may stand.
func TestOperators(t *testing.T) {
	for _, kind := range []int{api.Oper, api.Field} {
		for n := range 4 {
			eachList(parts, n, func(l []api.Node) {
				x := around(api.Node{Kind: kind, Kids: l})
				compare(t, x, wanted(x))
			})
		}
	}
}

// TestLeaves has leaves of every form, with every text that the chapter names, wherever one of the parts stands in a pattern.
func TestLeaves(t *testing.T) {
	texts := []string{"", "x", "C", "M.x", "M.C", "+", "-", ":", ":+", "1", "_", "@", "~", "=", "(", ")", "[", "]", "{", "}", ",", "`", ";", "::", "->", "<-", "..", "|", "!", " ", "((", ",,", "_ ", "``"}
	for form := -2; form <= api.Kinds+1; form++ {
		for _, text := range texts {
			x := leaf(form, text)
			compare(t, x, wanted(x))
			for _, n := range trees("Head⟨( + )⟩", "Head⟨( : )⟩", "Head⟨[ ]⟩", "Head⟨( , , )⟩", "Wild⟨_⟩", "As⟨x @ y⟩", "Lazy⟨~ x⟩", "Paren⟨( x )⟩", "Tuple⟨( x , y )⟩", "List⟨[ x , y ]⟩", "Record⟨C { Field⟨f = x⟩ , Field⟨f = x⟩ }⟩", "Record⟨C { }⟩", "Apply⟨C x y⟩", "Apply⟨f x⟩", "Apply⟨Paren⟨( Apply⟨f x⟩ )⟩ y⟩", "Ops⟨x Oper⟨:⟩ y⟩", "Ops⟨x Oper⟨` C `⟩ y⟩", "Ops⟨x Oper⟨+⟩ y⟩", "Ops⟨x Oper⟨` f `⟩ y⟩", "Ops⟨Minus⟨-⟩ 1⟩") {
				eachSpot(&n, func(spot *api.Node) {
					if spot.Kind == api.Leaf {
						old := *spot
						*spot = x
						compare(t, n, wanted(n))
						*spot = old
					}
				})
			}
		}
	}
}

// eachSpot visits all trees of n, which the visit may change for a while.
func eachSpot(n *api.Node, visit func(*api.Node)) {
	visit(n)
	for i := range n.Kids {
		eachSpot(&n.Kids[i], visit)
	}
}

// TestChanges has every tree of the tables with one thing changed, wherever that is.
func TestChanges(t *testing.T) {
	var all []string
	for _, x := range patterns {
		all = append(all, x.s)
	}
	for _, x := range functions {
		all = append(all, x.s)
	}
	for _, s := range all {
		for _, s := range []string{s, "Tuple⟨( " + s + " , a )⟩", "Apply⟨Paren⟨( " + s + " )⟩ a⟩"} {
			n := tree(s)
			eachSpot(&n, func(spot *api.Node) {
				old := *spot
				for _, x := range changed(old) {
					*spot = x
					compare(t, n, wanted(n))
				}
				*spot = old
			})
		}
	}
}

// changed returns the trees that differ from n in one thing.
func changed(n api.Node) []api.Node {
	var out []api.Node
	add := func(change func(x *api.Node)) {
		x := n
		x.Kids = slices.Clone(n.Kids)
		change(&x)
		out = append(out, x)
	}
	for kind := -1; kind <= api.Nodes; kind++ {
		add(func(x *api.Node) { x.Kind = kind })
	}
	for form := -1; form <= api.Kinds; form++ {
		add(func(x *api.Node) { x.Form = form })
	}
	for _, text := range []string{"", "x", ":", "(", ",", n.Text + " ", n.Text + n.Text} {
		add(func(x *api.Node) { x.Text = text })
	}
	for _, part := range parts {
		add(func(x *api.Node) { *x = part })
		for i := 0; i <= len(n.Kids); i++ {
			add(func(x *api.Node) { x.Kids = slices.Insert(x.Kids, i, part) })
		}
	}
	for i := range n.Kids {
		add(func(x *api.Node) { x.Kids = slices.Delete(x.Kids, i, i+1) })
		add(func(x *api.Node) { x.Kids = slices.Insert(x.Kids, i, x.Kids[i]) })
		for j := range i {
			add(func(x *api.Node) { x.Kids[i], x.Kids[j] = x.Kids[j], x.Kids[i] })
		}
	}
	return out
}

// A maker makes patterns, and notes the names in them as it goes.
type maker struct {
	r     *rand.Rand
	names []string
}

func (m *maker) pick(l ...string) string { return l[m.r.Intn(len(l))] }

func (m *maker) token(l ...string) api.Node { return tree(m.pick(l...)) }

// bound is a name that is noted.
func (m *maker) bound(l ...string) api.Node {
	n := m.token(l...)
	m.names = append(m.names, n.Text)
	return n
}

func (m *maker) constructor() api.Node {
	return m.token("C", "M.C", "Just", "Head⟨( : )⟩", "Head⟨( :+ )⟩", "Head⟨( M.:+ )⟩")
}

// simple makes a pattern of one part.
func (m *maker) simple() api.Node {
	switch m.r.Intn(5) {
	case 0:
		return node(api.Head, leaf(api.Punct, "("), m.bound("+", "-", "!", "<>"), leaf(api.Punct, ")"))
	case 1:
		return m.constructor()
	case 2:
		return m.token("1", "2.5", "'c'", `"s"`, "Wild⟨_⟩", "Head⟨[ ]⟩", "Head⟨( )⟩", "Head⟨( , )⟩", "Head⟨( , , )⟩")
	}
	return m.bound("x", "y", "z", "x'", "as")
}

// argument makes a pattern that is no Apply and no Ops.
func (m *maker) argument(size int) api.Node {
	if size < 2 {
		return m.simple()
	}
	switch m.r.Intn(6) {
	case 0:
		return node(api.As, m.bound("p", "q"), tree("@"), m.pattern(size-1))
	case 1:
		return node(api.Lazy, tree("~"), m.pattern(size-1))
	case 2:
		return node(api.Paren, slices.Concat(trees("("), []api.Node{m.pattern(size - 1)}, trees(")"))...)
	case 3:
		return node(api.Tuple, slices.Concat(trees("("), m.list(2+m.r.Intn(3), func() api.Node { return m.pattern(size / 2) }), trees(")"))...)
	case 4:
		return node(api.List, slices.Concat(trees("["), m.list(1+m.r.Intn(3), func() api.Node { return m.pattern(size / 2) }), trees("]"))...)
	}
	fields := m.list(m.r.Intn(4), func() api.Node {
		return node(api.Field, m.token("f", "M.f", "x"), tree("="), m.pattern(size/2))
	})
	return node(api.Record, slices.Concat([]api.Node{m.constructor()}, trees("{"), fields, trees("}"))...)
}

func (m *maker) list(n int, one func() api.Node) []api.Node {
	var l []api.Node
	for i := range n {
		if i > 0 {
			l = append(l, tree(","))
		}
		l = append(l, one())
	}
	return l
}

func (m *maker) arguments(size int) []api.Node {
	var l []api.Node
	for range 1 + m.r.Intn(3) {
		l = append(l, m.argument(size/2))
	}
	return l
}

func (m *maker) pattern(size int) api.Node {
	switch k := m.r.Intn(6); {
	case k == 0 && size > 1:
		return node(api.Apply, append([]api.Node{m.constructor()}, m.arguments(size)...)...)
	case k == 1 && size > 1:
		return node(api.Ops, m.row(size)...)
	}
	return m.argument(size)
}

// row makes a row of two kids or more.
func (m *maker) row(size int) []api.Node {
	var l []api.Node
	operands := 1 + m.r.Intn(3)
	for i := range operands {
		if i > 0 {
			l = append(l, m.token("Oper⟨:⟩", "Oper⟨:+⟩", "Oper⟨M.:+⟩", "Oper⟨` C `⟩", "Oper⟨` M.C `⟩"))
		}
		switch k := m.r.Intn(4); {
		case k == 0 || operands == 1:
			l = append(l, tree("Minus⟨-⟩"), m.token("1", "2.5"))
		case k == 1:
			l = append(l, node(api.Apply, append([]api.Node{m.constructor()}, m.arguments(size)...)...))
		default:
			l = append(l, m.argument(size/2))
		}
	}
	return l
}

// lhs makes the left-hand side of a function, and its name.
func (m *maker) lhs(size int) (api.Node, string) {
	switch m.r.Intn(3) {
	case 0:
		name := m.pick("f", "g", "x")
		return node(api.Apply, append(trees(name), m.arguments(size)...)...), name
	case 1:
		name := m.pick("+", "-", "` f `", "` x `")
		left, right := m.row(size), m.row(size)
		if m.r.Intn(3) == 0 {
			left = []api.Node{m.argument(size / 2)}
		}
		if m.r.Intn(3) == 0 {
			right = []api.Node{m.argument(size / 2)}
		}
		return node(api.Ops, slices.Concat(left, trees("Oper⟨"+name+"⟩"), right)...), strings.Trim(name, "` ")
	}
	if size < 2 {
		return tree("Apply⟨Head⟨( + )⟩ x⟩"), "+"
	}
	inner, name := m.lhs(size - 1)
	first := node(api.Paren, slices.Concat(trees("("), []api.Node{inner}, trees(")"))...)
	return node(api.Apply, append([]api.Node{first}, m.arguments(size)...)...), name
}

// TestMade has trees that are made by the forms, and each of them with up to three changes.
func TestMade(t *testing.T) {
	r := rand.New(rand.NewSource(12))
	for i := range 10000 {
		m := &maker{r: r}
		n := m.pattern(i % 12)
		check(t, n, asPattern(m.names...))
		f, name := (&maker{r: r}).lhs(i % 12)
		check(t, f, asFunction(name))
		for _, n := range []api.Node{n, f} {
			for range 3 {
				changeAny(r, &n)
				check(t, n, wanted(n))
			}
		}
		o := (&maker{r: r}).pattern(i % 5)
		checkTheorem(t, n, o, n)
		checkTheorem(t, o, (&maker{r: r}).pattern(i%7), n)
	}
}

// changeAny changes one thing somewhere in the tree.
func changeAny(r *rand.Rand, n *api.Node) {
	var spots []*api.Node
	eachSpot(n, func(spot *api.Node) { spots = append(spots, spot) })
	spot := spots[r.Intn(len(spots))]
	kids := slices.Clone(spot.Kids)
	switch at := r.Intn(len(kids) + 1); r.Intn(7) {
	case 0:
		spot.Kind = anyNumber(r, api.Nodes)
	case 1:
		spot.Form = anyNumber(r, api.Kinds)
	case 2:
		spot.Text = parts[r.Intn(len(parts))].Text
	case 3:
		kids = slices.Insert(kids, at, anyPart(r))
	case 4:
		kids = slices.Delete(kids, at/2, at)
	case 5:
		r.Shuffle(len(kids), func(i, j int) { kids[i], kids[j] = kids[j], kids[i] })
	default:
		*spot = anyPart(r)
		kids = spot.Kids
	}
	spot.Kids = kids
}

// anyPart is in new memory, since what is made of it is changed.
func anyPart(r *rand.Rand) api.Node { return roomy(parts[r.Intn(len(parts))]) }

func anyNumber(r *rand.Rand, limit int) int {
	if r.Intn(4) == 0 {
		return []int{least, -1, 0, 1, limit - 1, limit, most}[r.Intn(7)]
	}
	return r.Intn(limit)
}

// TestAnyTrees has trees of any kinds, forms and texts.
func TestAnyTrees(t *testing.T) {
	r := rand.New(rand.NewSource(13))
	for i := range 50000 {
		n := anyTree(r, i%30)
		check(t, n, wanted(n))
	}
}

// anyTree is of any kind, but mostly of the few that matter, and of the parts.
func anyTree(r *rand.Rand, size int) api.Node {
	if size < 2 && r.Intn(3) > 0 {
		return parts[r.Intn(len(parts))]
	}
	n := api.Node{Kind: anyNumber(r, api.Nodes), Line: r.Intn(9) - 4, Col: r.Intn(9) - 4}
	if r.Intn(2) > 0 {
		n.Kind = []int{api.Leaf, api.Head, api.Paren, api.Tuple, api.List, api.Record, api.Field, api.Apply, api.Ops, api.Oper, api.Minus, api.As, api.Lazy, api.Wild}[r.Intn(14)]
	}
	if n.Kind == api.Leaf || r.Intn(5) == 0 {
		n.Form, n.Text = anyNumber(r, api.Kinds), parts[r.Intn(len(parts))].Text
	}
	for size > 1 {
		part := 1 + r.Intn(size-1)
		n.Kids = append(n.Kids, anyTree(r, part))
		size -= part
	}
	return n
}
