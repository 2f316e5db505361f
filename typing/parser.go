package typing

import (
	"offside/api"
	"offside/layout"
)

// A parser stands at a state, and knows what Next of layer 9 returns for it. An error of Next is no fault as long as what was parsed may end there (whoever called may close a block there): its token is the zero one, with which nothing goes on.
type parser struct {
	s     api.State
	token api.Token
	after api.State
	e     api.Errno
}

// A fault is what parsing panics with: an error, and the state where it stands.
type fault struct {
	s api.State
	e api.Errno
}

// parse parses a form from the state s on.
func parse(s api.State, deep int, form func(*parser, int) api.Node) (n api.Node, after api.State, e api.Errno) {
	defer func() {
		thrown := recover()
		if wrong, ok := thrown.(fault); ok {
			after, e = wrong.s, wrong.e
		} else if thrown != nil {
			panic(thrown) // no error of a type: to take it for one would hide it
		}
	}()
	p := &parser{}
	p.move(s)
	n = form(p, min(deep, api.MaxDeep))
	return n, p.s, api.OK
}

func (p *parser) move(s api.State) {
	p.s = s
	p.token, p.after, p.e = layout.Next(s)
}

// take returns the leaf of the token that stands there, and moves behind it. That there is one is up to the caller.
func (p *parser) take() api.Node {
	t := p.token
	p.move(p.after)
	return api.Node{Kind: api.Leaf, Form: t.Kind, Text: t.Text, Line: t.Line, Col: t.Col}
}

// want takes the bracket that must stand there.
func (p *parser) want(bracket string) api.Node {
	if !p.is(api.Punct, bracket) {
		panic(p.wrong())
	}
	return p.take()
}

func (p *parser) is(kind int, text string) bool {
	return p.token.Kind == kind && p.token.Text == text
}

func (p *parser) isName() bool {
	switch p.token.Kind {
	case api.Var, api.Con, api.QCon:
		return true
	}
	return false
}

// wrong returns the fault of the token that cannot stand there.
func (p *parser) wrong() fault {
	if p.e != api.OK {
		return fault{p.s, p.e}
	}
	return fault{p.s, api.ErrSyntax}
}
