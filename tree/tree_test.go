package tree

import (
	"math"
	"math/rand"
	"reflect"
	"slices"
	"testing"

	"offside/api"
)

const (
	least = math.MinInt
	most  = math.MaxInt
)

func leaf(form int, text string) api.Node { return api.Node{Kind: api.Leaf, Form: form, Text: text} }

func node(kind int, kids ...api.Node) api.Node { return api.Node{Kind: kind, Kids: kids} }

// beyond is what stands in memory beyond the kids of an argument.
var beyond = api.Node{Kind: -7, Form: 8, Text: "beyond", Line: -9, Col: 10}

// roomy returns the tree in new memory, with room beyond the kids of each node.
func roomy(n api.Node) api.Node {
	kids := make([]api.Node, len(n.Kids)+2)
	for i, k := range n.Kids {
		kids[i] = roomy(k)
	}
	kids[len(n.Kids)], kids[len(n.Kids)+1] = beyond, beyond
	n.Kids = kids[:len(n.Kids)]
	return n
}

// checkRoom holds that a tree of roomy, and the memory beyond it, is as it was made of n.
func checkRoom(t *testing.T, got, n api.Node) {
	t.Helper()
	if got.Kind != n.Kind || got.Form != n.Form || got.Text != n.Text || got.Line != n.Line || got.Col != n.Col || len(got.Kids) != len(n.Kids) {
		t.Fatalf("R3: an argument is changed: %v", got)
	}
	for _, x := range got.Kids[len(n.Kids) : len(n.Kids)+2] {
		if !reflect.DeepEqual(x, beyond) {
			t.Fatalf("R3: memory beyond an argument is changed: %v", x)
		}
	}
	for i := range n.Kids {
		checkRoom(t, got.Kids[i], n.Kids[i])
	}
}

func checkSame(t *testing.T, a, b api.Node, want bool) {
	t.Helper()
	x, y := roomy(a), roomy(b)
	if got := Same(x, y); got != want {
		t.Errorf("K1: Same(%v, %v) = %v", a, b, got)
	}
	if got := Same(y, x); got != want {
		t.Errorf("K1: Same(%v, %v) = %v", b, a, got)
	}
	checkRoom(t, x, a)
	checkRoom(t, y, b)
}

func checkCounts(t *testing.T, n api.Node, size, depth int, leaves []api.Token) {
	t.Helper()
	given := roomy(n)
	if got := Size(given); got != size {
		t.Errorf("K2: Size(%v) = %d, not %d", n, got, size)
	}
	if got := Depth(given); got != depth {
		t.Errorf("K2: Depth(%v) = %d, not %d", n, got, depth)
	}
	if got := Leaves(given); !slices.Equal(got, leaves) {
		t.Errorf("K3: Leaves(%v) = %v, not %v", n, got, leaves)
	}
	checkRoom(t, given, n)
}

func checkShow(t *testing.T, n api.Node, want string, e api.Errno) {
	t.Helper()
	given := roomy(n)
	if got, err := Show(given); got != want || err != e {
		t.Fatalf("K4: Show(%v) = %q, %d, not %q, %d", n, got, err, want, e)
	}
	checkRoom(t, given, n)
}

// isZero reports whether nothing stands in a node.
func isZero(n api.Node) bool { return reflect.DeepEqual(n, api.Node{}) || equal(n, api.Node{}) }

// equal holds two trees against each other with all their fields.
func equal(a, b api.Node) bool {
	return a.Kind == b.Kind && a.Form == b.Form && a.Text == b.Text && a.Line == b.Line && a.Col == b.Col && slices.EqualFunc(a.Kids, b.Kids, equal)
}

func checkRead(t *testing.T, s string, want api.Node, e api.Errno) {
	t.Helper()
	got, err := Read(s)
	if err != e || !equal(got, want) {
		if len(s) > 200 {
			s = s[:100] + ".." + s[len(s)-100:]
		}
		t.Fatalf("K5: Read(%q) = %d, %d, not %d, %d", s, got.Kind, err, want.Kind, e)
	}
}

func TestSameFields(t *testing.T) {
	n := api.Node{Kind: api.Ops, Form: 1, Text: "t", Line: 3, Col: 4, Kids: []api.Node{leaf(api.Var, "x"), {Kind: api.Oper, Text: "o", Kids: []api.Node{leaf(api.Op, "+")}}}}
	changes := []struct {
		change func(n *api.Node)
		same   bool
	}{
		{func(n *api.Node) {}, true},
		{func(n *api.Node) { n.Kind++ }, false}, {func(n *api.Node) { n.Kind = least }, false},
		{func(n *api.Node) { n.Form++ }, false}, {func(n *api.Node) { n.Form = -1 }, false},
		{func(n *api.Node) { n.Text += "y" }, false}, {func(n *api.Node) { n.Text = "" }, false}, {func(n *api.Node) { n.Text = "z" }, false},
		{func(n *api.Node) { n.Line++ }, true}, {func(n *api.Node) { n.Line = -5 }, true}, {func(n *api.Node) { n.Col++ }, true}, {func(n *api.Node) { n.Line, n.Col = 9, least }, true},
		{func(n *api.Node) { n.Kids = append(n.Kids, api.Node{}) }, false}, {func(n *api.Node) { n.Kids = append([]api.Node{{}}, n.Kids...) }, false},
	}
	for _, c := range changes {
		for _, at := range [][]int{{}, {0}, {1}, {1, 0}} {
			other := roomy(n)
			x := &other
			for _, i := range at {
				x = &x.Kids[i]
			}
			c.change(x)
			checkSame(t, n, other, c.same)
			checkSame(t, node(api.Do, n), node(api.Do, other), c.same)
			checkSame(t, node(api.Do, n, n), node(api.Do, n, other), c.same)
			checkSame(t, api.Node{Kind: -1, Kids: []api.Node{n, leaf(1, "")}}, api.Node{Kind: -1, Kids: []api.Node{other, leaf(1, "")}}, c.same)
		}
	}
}

func TestSameKids(t *testing.T) {
	a, b, c := leaf(api.Var, "a"), leaf(api.Var, "b"), leaf(api.Var, "c")
	for _, x := range []struct {
		a, b []api.Node
		same bool
	}{
		{nil, nil, true}, {nil, []api.Node{}, true}, {nil, []api.Node{{}}, false},
		{[]api.Node{a}, nil, false}, {[]api.Node{a}, []api.Node{a}, true}, {[]api.Node{a}, []api.Node{a, a}, false}, {[]api.Node{a}, []api.Node{b}, false},
		{[]api.Node{a, b}, []api.Node{b, a}, false}, {[]api.Node{a, b}, []api.Node{a, b}, true}, {[]api.Node{a, b}, []api.Node{a}, false}, {[]api.Node{a, b}, []api.Node{b}, false},
		{[]api.Node{a, b, c}, []api.Node{a, b, c}, true}, {[]api.Node{a, b, c}, []api.Node{a, c, b}, false}, {[]api.Node{a, b, c}, []api.Node{a, b, b}, false},
		{[]api.Node{node(api.Do, a), b}, []api.Node{node(api.Do), a, b}, false}, {[]api.Node{node(api.Do, a, b)}, []api.Node{node(api.Do, a), b}, false}, {[]api.Node{node(api.Do, node(api.Do))}, []api.Node{node(api.Do), node(api.Do)}, false},
	} {
		checkSame(t, node(api.Ops, x.a...), node(api.Ops, x.b...), x.same)
		checkSame(t, api.Node{Kind: api.Leaf, Kids: x.a}, api.Node{Kind: api.Leaf, Kids: x.b}, x.same)
		checkSame(t, node(api.Do, c, node(api.Ops, x.a...), c), node(api.Do, c, node(api.Ops, x.b...), c), x.same)
	}
}

func TestCounts(t *testing.T) {
	x, y := api.Node{Kind: api.Leaf, Form: api.Var, Text: "x", Line: 3, Col: 5}, api.Node{Kind: api.Leaf, Form: api.Int, Text: "7", Line: 4, Col: 1}
	tx, ty := api.Token{Kind: api.Var, Text: "x", Line: 3, Col: 5}, api.Token{Kind: api.Int, Text: "7", Line: 4, Col: 1}
	with := func(kids ...api.Node) api.Node {
		n := x
		n.Kids = kids
		return n
	}
	do := func(kids ...api.Node) api.Node {
		n := node(api.Do, kids...)
		n.Form, n.Text, n.Line, n.Col = 2, "no token", 9, 9
		return n
	}
	for _, c := range []struct {
		n           api.Node
		size, depth int
		leaves      []api.Token
	}{
		{api.Node{}, 1, 1, nil}, {do(), 1, 1, nil}, {x, 1, 1, []api.Token{tx}}, {leaf(0, ""), 1, 1, []api.Token{{}}}, {api.Node{Kind: api.Leaf, Form: least, Line: -1}, 1, 1, []api.Token{{Kind: least, Line: -1}}},
		{with(y), 2, 2, []api.Token{tx}}, {with(y, do(y)), 4, 3, []api.Token{tx}}, {with(with(with(y))), 4, 4, []api.Token{tx}}, {do(with(y), y), 4, 3, []api.Token{tx, ty}},
		{do(x), 2, 2, []api.Token{tx}}, {do(x, y), 3, 2, []api.Token{tx, ty}}, {do(y, x), 3, 2, []api.Token{ty, tx}}, {do(x, x), 3, 2, []api.Token{tx, tx}}, {do(do(), do()), 3, 2, nil},
		{do(do(x), y), 4, 3, []api.Token{tx, ty}}, {do(x, do(y)), 4, 3, []api.Token{tx, ty}}, {do(do(do(x)), do(y), y), 7, 4, []api.Token{tx, ty, ty}}, {do(y, do(x), do(do(x))), 7, 4, []api.Token{ty, tx, tx}},
		{do(y, do(do(x)), do(x)), 7, 4, []api.Token{ty, tx, tx}}, {do(do(x), do(do(do())), x), 7, 4, []api.Token{tx, tx}},
		{api.Node{Kind: -3, Kids: []api.Node{x, {Kind: api.Nodes, Kids: []api.Node{y}}}}, 4, 3, []api.Token{tx, ty}}, {api.Node{Kids: []api.Node{{Kids: []api.Node{y}}, x}}, 4, 3, []api.Token{ty, tx}},
	} {
		checkCounts(t, c.n, c.size, c.depth, c.leaves)
	}
}

// chain returns n nodes in one another, the innermost a leaf.
func chain(n int, inner api.Node) api.Node {
	for range n - 1 {
		inner = node(api.Do, inner)
	}
	return inner
}

// TestDeepArguments has trees that are nested as deep as arguments may be.
func TestDeepArguments(t *testing.T) {
	const n = 1 << 16
	a, b, c := chain(n, leaf(api.Var, "x")), chain(n, leaf(api.Var, "x")), chain(n, leaf(api.Var, "y"))
	if !Same(a, b) || Same(a, c) || Same(a, chain(n-1, leaf(api.Var, "x"))) {
		t.Error("K1: of deep trees")
	}
	if Size(a) != n || Depth(a) != n || len(Leaves(a)) != 1 {
		t.Errorf("K2: %d nodes, %d deep, %d leaves", Size(a), Depth(a), len(Leaves(a)))
	}
	if s, e := Show(a); len(s) != 5*(n-1)+4 || e != api.OK {
		t.Errorf("K4: %d bytes, %d", len(s), e)
	}
	if s, e := Show(chain(n, leaf(api.Kinds, ""))); s != "" || e != api.ErrTree {
		t.Errorf("K4: %d bytes, %d", len(s), e)
	}
}

// TestEveryTree holds all calls against the second readings over trees of all kinds.
func TestEveryTree(t *testing.T) {
	r := rand.New(rand.NewSource(10))
	valid, invalid, equals := 0, 0, 0
	for i := range 40000 {
		n := anyTree(r, 1+r.Intn(1+i%20), []int{0, 0, 9, 40}[i%4])
		checkCounts(t, n, wantedSize(n), wantedDepth(n), wantedLeaves(n))
		s, e := wantedShow(n)
		checkShow(t, n, s, e)
		if e == api.OK {
			valid++
			checkUndone(t, n, s)
		} else {
			invalid++
		}
		other := anyTree(r, 1+r.Intn(3), 0)
		small := anyTree(r, 1+r.Intn(3), 0)
		other.Kind, small.Kind = api.Do, api.Do
		checkSame(t, small, other, wantedSame(small, other))
		if wantedSame(small, other) {
			equals++
		}
		if i%10 == 0 {
			changed := change(r, n)
			checkSame(t, n, changed, wantedSame(n, changed))
		}
	}
	if valid < 10000 || invalid < 5000 || equals < 100 {
		t.Errorf("K6: only %d valid trees, %d others, %d that are the same", valid, invalid, equals)
	}
}

// change returns the tree with one field of one of its nodes changed.
func change(r *rand.Rand, n api.Node) api.Node {
	n = roomy(n)
	x := &n
	for len(x.Kids) > 0 && r.Intn(3) > 0 {
		x = &x.Kids[r.Intn(len(x.Kids))]
	}
	switch r.Intn(7) {
	case 0:
		x.Kind ^= 1
	case 1:
		x.Form ^= 1
	case 2:
		x.Text += "x"
	case 3:
		x.Line ^= 1
	case 4:
		x.Col ^= 1
	case 5:
		x.Kids = slices.Concat(x.Kids, []api.Node{leaf(1, "")})
	case 6:
		x.Kids = x.Kids[:len(x.Kids)/2]
	}
	return n
}

// bare returns the tree without places.
func bare(n api.Node) api.Node {
	n.Line, n.Col = 0, 0
	n.Kids = slices.Clone(n.Kids)
	for i := range n.Kids {
		n.Kids[i] = bare(n.Kids[i])
	}
	return n
}

// checkUndone holds K6 for a valid tree and its text.
func checkUndone(t *testing.T, n api.Node, s string) {
	t.Helper()
	got, e := Read(s)
	if e != api.OK || !equal(got, bare(n)) || !Same(got, n) {
		t.Fatalf("K6: Read does not undo Show of %v: %v, %d", n, got, e)
	}
	if again, e := Show(got); again != s || e != api.OK {
		t.Fatalf("K6: Show does not undo Read of %q: %q, %d", s, again, e)
	}
	others := 0
	for _, x := range inOrder(n) {
		if x.Kind != api.Leaf {
			others++
		}
	}
	if Size(n) < Depth(n) || Size(n) != len(Leaves(n))+others {
		t.Fatalf("K6: %d nodes, %d deep, %d leaves, %d others", Size(n), Depth(n), len(Leaves(n)), others)
	}
}

// TestExamples has the chapter's examples.
func TestExamples(t *testing.T) {
	checkShow(t, node(api.Ops, leaf(api.Var, "x"), leaf(api.Op, "+")), `(17 1"x" 5"+")`, api.OK)
	checkRead(t, "(2!)", api.Node{Kind: api.Block, Form: 1}, api.OK)
	checkRead(t, "(1)", api.Node{}, api.ErrTree)
	checkRead(t, `1"\41"`, api.Node{}, api.ErrTree)
	checkRead(t, `1"A"`, leaf(api.Var, "A"), api.OK)
}
