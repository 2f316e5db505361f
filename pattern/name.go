package pattern

import (
	"slices"

	"offside/api"
)

// variable returns the name of the variable n.
func variable(n api.Node) (string, bool) {
	if isLeaf(n, api.Var) {
		return n.Text, true
	}
	if in, ok := symbol(n); ok && isLeaf(in, api.Op) {
		return in.Text, true
	}
	return "", false
}

func isVariable(n api.Node) bool {
	_, ok := variable(n)
	return ok
}

func isConstructor(n api.Node) bool {
	in, ok := symbol(n)
	return ok && isConstructorSymbol(in) || isLeaf(n, api.Con, api.QCon)
}

// symbol returns what stands between the parentheses of a Head, if that is one tree.
func symbol(n api.Node) (api.Node, bool) {
	if n.Kind != api.Head {
		return api.Node{}, false
	}
	return only(n.Kids, "(", ")")
}

func isConstructorSymbol(n api.Node) bool {
	return isLeaf(n, api.ConOp, api.QConOp) || is(n, api.Mark, ":")
}

func isConstructorOperator(n api.Node) bool {
	if n.Kind != api.Oper {
		return false
	}
	if len(n.Kids) == 1 {
		return isConstructorSymbol(n.Kids[0])
	}
	in, ok := only(n.Kids, "`", "`")
	return ok && isLeaf(in, api.Con, api.QCon)
}

// bindable returns the name of the bindable operator n.
func bindable(n api.Node) (string, bool) {
	if n.Kind != api.Oper {
		return "", false
	}
	if len(n.Kids) == 1 && isLeaf(n.Kids[0], api.Op) {
		return n.Kids[0].Text, true
	}
	if in, ok := only(n.Kids, "`", "`"); ok && isLeaf(in, api.Var) {
		return in.Text, true
	}
	return "", false
}

func isLiteral(n api.Node) bool {
	return isLeaf(n, api.Int, api.Float, api.Char, api.Text)
}

func isComma(n api.Node) bool { return is(n, api.Punct, ",") }

// is reports whether n is the leaf of a token with this kind and text.
func is(n api.Node, kind int, text string) bool {
	return isLeaf(n, kind) && n.Text == text
}

// isLeaf reports whether n is the leaf of a token with one of these kinds.
func isLeaf(n api.Node, kinds ...int) bool {
	return n.Kind == api.Leaf && slices.Contains(kinds, n.Form)
}

// inside returns what stands between the brackets, if these are the first tree and the last.
func inside(kids []api.Node, open, shut string) ([]api.Node, bool) {
	last := len(kids) - 1
	if last < 1 || !is(kids[0], api.Punct, open) || !is(kids[last], api.Punct, shut) {
		return nil, false
	}
	return kids[1:last], true
}

// only returns the one tree that stands between the brackets.
func only(kids []api.Node, open, shut string) (api.Node, bool) {
	in, ok := inside(kids, open, shut)
	if !ok || len(in) != 1 {
		return api.Node{}, false
	}
	return in[0], true
}

// isList reports whether trees of this form stand there, one or more of them, with commas between them.
func isList(kids []api.Node, form func(api.Node) bool) bool {
	for i, kid := range kids {
		if i%2 == 0 && !form(kid) || i%2 == 1 && !isComma(kid) {
			return false
		}
	}
	return len(kids)%2 == 1
}

// every reports whether all trees are of this form.
func every(kids []api.Node, form func(api.Node) bool) bool {
	return !slices.ContainsFunc(kids, func(n api.Node) bool { return !form(n) })
}
