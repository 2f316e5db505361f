package pattern

import (
	"regexp"
	"strings"

	"offside/api"
)

// The second reading writes a letter for each tree, from its kind and its kids' letters:
//
//	v V  a variable that is a leaf, and one that is a Head
//	C K  a constructor that is a leaf, and one that is a Head
//	q k o 1 t  other leaves: QVar; ConOp, QConOp and `:`; Op; Int and Float; Char and Text
//	A O p  a pattern that is an Apply, an Ops, or anything else
//	c b  a constructor operator and a bindable one
//	f -  a field and a Minus
//	F P  the left-hand side of a function, and one in parentheses
//	?    anything else
//
// A leaf that the chapter names by its text has that as its letter.

var leafLetters = map[int]string{
	api.Var: "v", api.QVar: "q", api.Con: "C", api.QCon: "C", api.ConOp: "k", api.QConOp: "k", api.Op: "o", api.Int: "1", api.Float: "1", api.Char: "t", api.Text: "t",
}

var namedLeaves = map[int]string{api.Mark: ":@~=", api.Word: "_", api.Punct: "()[]{},`"}

// A rule has the letter of the trees whose kids' letters match.
type rule struct {
	kids   *regexp.Regexp
	letter string
}

var rules = map[int][]rule{
	api.Head:   {{exactly(`\(o\)`), "V"}, {exactly(`\(k\)`), "K"}, {exactly(`\[\]|\(,*\)`), "p"}},
	api.Wild:   {{exactly(`_`), "p"}},
	api.As:     {{exactly(`v@PAT`), "p"}},
	api.Lazy:   {{exactly(`~PAT`), "p"}},
	api.Paren:  {{exactly(`\(PAT\)`), "p"}, {exactly(`\(F\)`), "P"}},
	api.Tuple:  {{exactly(`\(PAT(,PAT)+\)`), "p"}},
	api.List:   {{exactly(`\[PAT(,PAT)*\]`), "p"}},
	api.Field:  {{exactly(`[vq]=PAT`), "f"}},
	api.Record: {{exactly(`[CK]\{(f(,f)*)?\}`), "p"}},
	api.Apply:  {{exactly(`[CK]ARG+`), "A"}, {exactly(`[vVP]ARG+`), "F"}},
	api.Ops:    {{exactly(`-1|ONE(cONE)+`), "O"}, {exactly(`ONE(cONE)*bONE(cONE)*`), "F"}},
	api.Oper:   {{exactly("k|`C`"), "c"}, {exactly("o|`v`"), "b"}},
	api.Minus:  {{exactly(`.*`), "-"}},
}

func exactly(s string) *regexp.Regexp {
	s = strings.NewReplacer("PAT", "[vVCK1tpAO]", "ARG", "[vVCK1tp]", "ONE", "([vVCK1tpA]|-1)").Replace(s)
	return regexp.MustCompile(`^(?:` + s + `)$`)
}

func letterOf(n api.Node) string {
	if n.Kind == api.Leaf {
		return leafLetter(n.Form, n.Text)
	}
	var kids strings.Builder
	if rules[n.Kind] != nil {
		for _, k := range n.Kids {
			kids.WriteString(letterOf(k))
		}
	}
	for _, r := range rules[n.Kind] {
		if r.kids.MatchString(kids.String()) {
			return r.letter
		}
	}
	return "?"
}

func leafLetter(form int, text string) string {
	if len(text) == 1 && strings.Contains(namedLeaves[form], text) {
		if text == ":" {
			return "k"
		}
		return text
	}
	if s := leafLetters[form]; s != "" {
		return s
	}
	return "?"
}

// wanted is what the calls return for a tree.
func wanted(n api.Node) answer {
	switch letter := letterOf(n); {
	case letter == "F":
		return asFunction(wantedName(n))
	case strings.Contains("vVCK1tpAO", letter):
		return asPattern(wantedNames(n)...)
	}
	return answer{}
}

// wantedName goes down to the name of the function.
func wantedName(n api.Node) string {
	for {
		switch letterOf(n) {
		case "v":
			return n.Text
		case "V", "P":
			n = n.Kids[1]
		case "F":
			if n.Kind == api.Apply {
				n = n.Kids[0]
				break
			}
			for letterOf(n.Kids[0]) != "b" {
				n.Kids = n.Kids[1:]
			}
			n = n.Kids[0]
		default: // an operator, or what is between the parentheses
			if n.Kind == api.Oper {
				n = n.Kids[len(n.Kids)/2]
			}
			if n.Kind == api.Leaf {
				return n.Text
			}
		}
	}
}

// A spot is a tree below another: where it hangs, and whether it is inside of what hides names.
type spot struct {
	n      api.Node
	field  bool
	hidden bool
}

// wantedNames goes through all trees, and says of each whether its name counts.
func wantedNames(n api.Node) []string {
	var names []string
	for todo := []spot{{n: n}}; len(todo) > 0; {
		s := todo[len(todo)-1]
		todo = todo[:len(todo)-1]
		letter := ""
		if s.n.Kind == api.Leaf || s.n.Kind == api.Head {
			letter = letterOf(s.n)
		}
		isName := letter == "v" || letter == "V"
		if isName && !s.field && !s.hidden {
			names = append(names, wantedName(s.n))
		}
		hidden := s.hidden || isName || s.n.Kind == api.Oper || s.n.Kind == api.Minus
		for i := len(s.n.Kids) - 1; i >= 0; i-- {
			todo = append(todo, spot{s.n.Kids[i], s.n.Kind == api.Field && i == 0, hidden})
		}
	}
	return names
}
