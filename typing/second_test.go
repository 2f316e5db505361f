package typing

import (
	"offside/api"
	"offside/layout"
)

// A level is what an open bracket has so far: of the bracket itself, of the type behind its last comma, and of that one's last row.
type level struct {
	bracket, arrow, atoms []api.Node
}

// A machine is a second reading of the chapter, without calls that call themselves: it pushes a level for each bracket that has types, and pops it at the bracket's end.
type machine struct {
	f       form
	s       api.State
	deep    int
	levels  []level
	context []api.Node
	n       api.Node
	e       api.Errno
	done    bool
}

// wanted is what a form returns for a state.
func wanted(f form, s api.State, deep int) (api.Node, api.State, api.Errno) {
	m := &machine{f: f, s: s, deep: min(deep, 100), levels: []level{{}}}
	for !m.done {
		m.step()
	}
	return m.n, m.s, m.e
}

func (m *machine) end(n api.Node, e api.Errno) { m.n, m.e, m.done = n, e, true }

func (m *machine) top() *level { return &m.levels[len(m.levels)-1] }

// next is Next's token, as its text with its kind ahead, so that it can be compared at one blow.
func (m *machine) next() (string, api.Token, api.State, api.Errno) {
	x, after, e := layout.Next(m.s)
	word := ""
	switch {
	case e != api.OK:
	case x.Kind == api.Punct || x.Kind == api.Mark:
		word = x.Text
		if (x.Kind == api.Mark) != (word == "->" || word == "=>") {
			word = ""
		}
	case x.Kind == api.Var || x.Kind == api.Con || x.Kind == api.QCon:
		word = "name"
	}
	return word, x, after, e
}

// pass takes the next token.
func (m *machine) pass() api.Node {
	_, x, after, _ := m.next()
	m.s = after
	return leaf(x)
}

func (m *machine) fail() {
	e := api.ErrSyntax
	if _, _, _, is := m.next(); is != api.OK {
		e = is
	}
	m.end(api.Node{}, e)
}

func (m *machine) step() {
	if m.deep-len(m.levels)+1 < 1 {
		m.end(api.Node{}, api.ErrDeep)
		return
	}
	l := m.top()
	bottom := len(m.levels) == 1
	word, _, _, _ := m.next()
	switch {
	case bottom && m.f.name == atom.name && len(l.atoms) == 1:
		m.end(l.atoms[0], api.OK)
	case word == "name":
		l.atoms = append(l.atoms, m.pass())
	case word == "(" || word == "[":
		m.open(word)
	case len(l.atoms) == 0:
		m.fail()
	case bottom && m.f.name == row.name:
		m.end(reduced(api.TApply, l.atoms), api.OK)
	default:
		l.arrow = append(l.arrow, reduced(api.TApply, l.atoms))
		l.atoms = nil
		m.behind(word, bottom)
	}
}

// reduced is a node of more than one part, or the one part.
func reduced(kind int, parts []api.Node) api.Node {
	if len(parts) == 1 {
		return parts[0]
	}
	return api.Node{Kind: kind, Kids: parts}
}

// open passes a head, or what may be one up to where it cannot go on; for any other bracket it pushes a level.
func (m *machine) open(word string) {
	l := m.top()
	head := []api.Node{m.pass()}
	second, _, _, _ := m.next()
	switch {
	case second == "->" && word == "(":
		head = append(head, m.pass())
	case second == "," && word == "(":
		for second == "," {
			head = append(head, m.pass())
			second, _, _, _ = m.next()
		}
	case second != map[string]string{"(": ")", "[": "]"}[word]:
		m.levels = append(m.levels, level{bracket: head})
		return
	}
	if last, _, _, _ := m.next(); word == "(" && last != ")" {
		m.fail()
		return
	}
	l.atoms = append(l.atoms, api.Node{Kind: api.Head, Kids: append(head, m.pass())})
}

// behind goes on behind a row.
func (m *machine) behind(word string, bottom bool) {
	l := m.top()
	switch {
	case word == "->":
		l.arrow = append(l.arrow, m.pass())
	case bottom && word == "=>" && m.f.name == full.name && m.context == nil && len(l.arrow) == 1:
		m.context = append(l.arrow, m.pass())
		l.arrow = nil
	case bottom:
		n := reduced(api.Arrow, l.arrow)
		if m.context != nil {
			n = api.Node{Kind: api.Qual, Kids: append(m.context, n)}
		}
		m.end(n, api.OK)
	default:
		m.close(word)
	}
}

// close goes on behind a type in a bracket.
func (m *machine) close(word string) {
	l := m.top()
	l.bracket = append(l.bracket, reduced(api.Arrow, l.arrow))
	l.arrow = nil
	kind := map[string]int{"(": api.Paren, "[": api.List}[l.bracket[0].Text]
	if len(l.bracket) > 2 {
		kind = api.Tuple
	}
	switch {
	case word == "," && kind != api.List:
		l.bracket = append(l.bracket, m.pass())
	case word == ")" && kind != api.List || word == "]" && kind == api.List:
		n := api.Node{Kind: kind, Kids: append(l.bracket, m.pass())}
		m.levels = m.levels[:len(m.levels)-1]
		m.top().atoms = append(m.top().atoms, n)
	default:
		m.fail()
	}
}
