package pattern

import (
	"fmt"
	"math"
	"reflect"
	"slices"
	"strings"
	"testing"

	"offside/api"
	"offside/lexer"
)

const (
	least = math.MinInt
	most  = math.MaxInt
)

func leaf(form int, text string) api.Node { return api.Node{Kind: api.Leaf, Form: form, Text: text} }

func node(kind int, kids ...api.Node) api.Node { return api.Node{Kind: kind, Kids: kids} }

var kinds = map[string]int{
	"NoNode": api.NoNode, "Leaf": api.Leaf, "Block": api.Block, "Head": api.Head, "Paren": api.Paren, "Tuple": api.Tuple, "List": api.List, "Range": api.Range, "Comp": api.Comp, "LeftSec": api.LeftSec, "RightSec": api.RightSec, "Apply": api.Apply, "Record": api.Record, "Field": api.Field, "Wild": api.Wild, "As": api.As, "Lazy": api.Lazy, "Ops": api.Ops, "Oper": api.Oper, "Minus": api.Minus, "Infix": api.Infix, "Negate": api.Negate, "Typed": api.Typed, "Lambda": api.Lambda, "Do": api.Do, "TApply": api.TApply, "Strict": api.Strict,
}

var tokenKinds = map[string]int{
	"Var": api.Var, "Con": api.Con, "QVar": api.QVar, "QCon": api.QCon, "Op": api.Op, "ConOp": api.ConOp, "QOp": api.QOp, "QConOp": api.QConOp, "Word": api.Word, "Mark": api.Mark, "Int": api.Int, "Float": api.Float, "Char": api.Char, "Text": api.Text, "Punct": api.Punct, "Left": api.Left, "End": api.End, "None": api.NoKind,
}

// tree reads a notation: a leaf is its token, or its form, a middle dot and its text; a node is its kind with its kids in angles, and a leaf may have kids there, too.
func tree(s string) api.Node {
	words := strings.Fields(strings.NewReplacer("⟨", " ⟨ ", "⟩", " ⟩ ").Replace(s))
	n, rest := treeFrom(words)
	if len(rest) > 0 {
		panic("no notation: " + s)
	}
	return n
}

func treeFrom(words []string) (api.Node, []string) {
	name := words[0]
	words = words[1:]
	within := len(words) > 0 && words[0] == "⟨"
	kind, ok := kinds[name]
	n := api.Node{Kind: kind}
	if !ok || !within {
		n = leafOf(name)
	}
	if within {
		words = words[1:]
		for words[0] != "⟩" {
			var kid api.Node
			kid, words = treeFrom(words)
			n.Kids = append(n.Kids, kid)
		}
		words = words[1:]
	}
	return n, words
}

func leafOf(name string) api.Node {
	if form, text, ok := strings.Cut(name, "·"); ok {
		if _, ok := tokenKinds[form]; !ok {
			panic("no form: " + name)
		}
		return leaf(tokenKinds[form], text)
	}
	l, _, _, e := lexer.Lex(name)
	if e != api.OK || len(l) != 1 {
		panic("no token: " + name)
	}
	return leaf(l[0].Kind, name)
}

// brief is a tree for people to read.
func brief(n api.Node) string {
	name := fmt.Sprint(n.Kind)
	for s, kind := range kinds {
		if kind == n.Kind {
			name = s
		}
	}
	if n.Form != 0 || n.Text != "" {
		name += fmt.Sprintf("(%d %q)", n.Form, n.Text)
	}
	if n.Kind == api.Leaf && len(n.Kids) == 0 {
		return name
	}
	var parts []string
	for _, k := range n.Kids {
		parts = append(parts, brief(k))
	}
	if s := name + "⟨" + strings.Join(parts, " ") + "⟩"; len(s) < 2000 {
		return s
	}
	return name + "⟨..⟩"
}

// beyond is what stands in memory beyond the kids of an argument.
var beyond = api.Node{Kind: api.Leaf, Form: api.Var, Text: "beyond", Line: -9, Col: 10}

// roomy returns the tree in new memory, with room beyond the kids of each node.
func roomy(n api.Node) api.Node {
	kids := make([]api.Node, len(n.Kids)+2)
	for i, k := range n.Kids {
		kids[i] = roomy(k)
	}
	kids[len(n.Kids)], kids[len(n.Kids)+1] = beyond, beyond
	n.Kids = kids[:len(n.Kids)]
	return n
}

// checkRoom holds that a tree of roomy, and the memory beyond it, is as it was made of n.
func checkRoom(t *testing.T, got, n api.Node) {
	t.Helper()
	if got.Kind != n.Kind || got.Form != n.Form || got.Text != n.Text || got.Line != n.Line || got.Col != n.Col || len(got.Kids) != len(n.Kids) {
		t.Fatalf("R3: an argument is changed: %s", brief(got))
	}
	for _, x := range got.Kids[len(n.Kids) : len(n.Kids)+2] {
		if !reflect.DeepEqual(x, beyond) {
			t.Fatalf("R3: memory beyond an argument is changed: %v", x)
		}
	}
	for i := range n.Kids {
		checkRoom(t, got.Kids[i], n.Kids[i])
	}
}

// An answer is what all three calls return for a tree.
type answer struct {
	kind  int
	name  string
	names []string
}

func asPattern(names ...string) answer { return answer{kind: Pattern, names: names} }

func asFunction(name string) answer { return answer{kind: Function, name: name} }

// check holds all calls against the answer that is wanted.
func check(t *testing.T, n api.Node, want answer) {
	t.Helper()
	given := roomy(n)
	pat, lhs := api.ErrForm, api.ErrForm
	if want.kind == Pattern {
		pat = api.OK
	}
	if want.kind != None {
		lhs = api.OK
	}
	if e := Check(given); e != pat {
		t.Fatalf("M1: Check(%s) = %d, not %d", brief(n), e, pat)
	}
	if kind, name, e := Lhs(given); kind != want.kind || name != want.name || e != lhs {
		t.Fatalf("M2: Lhs(%s) = %d, %q, %d, not %d, %q, %d", brief(n), kind, name, e, want.kind, want.name, lhs)
	}
	names, e := Names(given)
	if !slices.Equal(names, want.names) || e != pat {
		t.Fatalf("M3: Names(%s) = %q, %d, not %q, %d", brief(n), names, e, want.names, pat)
	}
	for i := range names {
		names[i] = "changed"
	}
	if again, _ := Names(given); !slices.Equal(again, want.names) {
		t.Fatalf("R3: Names(%s) hands out what it keeps: %q", brief(n), again)
	}
	checkRoom(t, given, n)
}
