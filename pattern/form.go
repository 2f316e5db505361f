package pattern

import "offside/api"

func isPattern(n api.Node) bool {
	kids := n.Kids
	switch n.Kind {
	case api.Leaf, api.Head:
		return isVariable(n) || isConstructor(n) || isLiteral(n) || isBrackets(n)
	case api.Wild:
		return len(kids) == 1 && is(kids[0], api.Word, "_")
	case api.As:
		return len(kids) == 3 && isLeaf(kids[0], api.Var) && is(kids[1], api.Mark, "@") && isPattern(kids[2])
	case api.Lazy:
		return len(kids) == 2 && is(kids[0], api.Mark, "~") && isPattern(kids[1])
	case api.Paren:
		in, ok := only(kids, "(", ")")
		return ok && isPattern(in)
	case api.Tuple:
		in, _ := inside(kids, "(", ")")
		return len(in) > 1 && isList(in, isPattern)
	case api.List:
		in, _ := inside(kids, "[", "]")
		return isList(in, isPattern)
	case api.Record:
		return len(kids) > 0 && isConstructor(kids[0]) && isFields(kids[1:])
	case api.Apply:
		return len(kids) > 1 && isConstructor(kids[0]) && every(kids[1:], isArgument)
	case api.Ops:
		return len(kids) > 1 && isRow(kids)
	}
	return false
}

// isRow reports whether operands stand there, with constructor operators between them.
func isRow(kids []api.Node) bool {
	at := 0
operand:
	if at == len(kids) || kids[at].Kind == api.Ops {
		return false
	}
	if kids[at].Kind == api.Minus {
		at++
		goto number
	}
	if !isPattern(kids[at]) {
		return false
	}
	at++
	goto operator
number:
	if at == len(kids) || !isLeaf(kids[at], api.Int, api.Float) {
		return false
	}
	at++
operator:
	if at == len(kids) {
		return true
	}
	if !isConstructorOperator(kids[at]) {
		return false
	}
	at++
	goto operand
}

// isArgument reports whether n may stand behind what is applied.
func isArgument(n api.Node) bool {
	return n.Kind != api.Apply && n.Kind != api.Ops && isPattern(n)
}

// isFields reports whether fields in braces stand there.
func isFields(kids []api.Node) bool {
	in, ok := inside(kids, "{", "}")
	return ok && (len(in) == 0 || isList(in, isField))
}

func isField(n api.Node) bool {
	kids := n.Kids
	return n.Kind == api.Field && len(kids) == 3 && isLeaf(kids[0], api.Var, api.QVar) && is(kids[1], api.Mark, "=") && isPattern(kids[2])
}

// isBrackets reports whether n is a Head without a name.
func isBrackets(n api.Node) bool {
	if n.Kind != api.Head {
		return false
	}
	if in, ok := inside(n.Kids, "[", "]"); ok {
		return len(in) == 0
	}
	in, ok := inside(n.Kids, "(", ")")
	return ok && every(in, isComma)
}
