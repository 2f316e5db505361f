package layout

import (
	"slices"

	"offside/api"
)

// wantedValid is a second reading of which states are valid.
func wantedValid(s api.State) bool {
	columns := true
	for _, col := range s.Open {
		columns = columns && col >= 0
	}
	inside := 0 <= s.At && s.At <= len(s.Toks)
	atBegin := inside && s.At != len(s.Toks) && s.Toks[s.At].Kind == api.Begin
	return inside && columns && (s.Wait == 0 || atBegin && (s.Wait == 1 || s.Wait == 2))
}

// without returns the state without its innermost block, and with returns it with one more, each in new memory.
func without(s api.State) api.State {
	s.Open = slices.Clone(s.Open[:len(s.Open)-1])
	return s
}

func with(s api.State, col int) api.State {
	s.Open = append(slices.Clone(s.Open), col)
	return s
}

func moved(s api.State, by, wait int) api.State {
	s.At, s.Wait = s.At+by, wait
	return s
}

// wantedNext is a second reading of what Next returns, word for word as the chapter tells it.
func wantedNext(s api.State) (api.Token, api.State, api.Errno) {
	if !wantedValid(s) {
		return api.Token{}, api.State{}, api.ErrArg
	}
	blocks := len(s.Open)
	column := 0
	if blocks != 0 {
		column = s.Open[blocks-1]
	}
	if s.At == len(s.Toks) {
		switch {
		case blocks == 0:
			return api.Token{Kind: api.End}, s, api.OK
		case column != 0:
			return api.Token{Kind: api.Right}, without(s), api.OK
		}
		return api.Token{}, s, api.ErrClose
	}
	x := s.Toks[s.At]
	if isMark(x) {
		return wantedMark(s, x, column)
	}
	if x.Kind == api.Punct && x.Text == "{" {
		return x, moved(with(s, 0), 1, 0), api.OK
	}
	if x.Kind != api.Punct || x.Text != "}" {
		return x, moved(s, 1, 0), api.OK
	}
	if blocks == 0 || column != 0 {
		return api.Token{}, s, api.ErrClose
	}
	return x, moved(without(s), 1, 0), api.OK
}

func wantedMark(s api.State, x api.Token, column int) (api.Token, api.State, api.Errno) {
	implicit := func(kind int) api.Token { return api.Token{Kind: kind, Line: x.Line, Col: x.Col} }
	if x.Kind == api.Begin && s.Wait < 2 {
		switch {
		case s.Wait == 1:
			return implicit(api.Right), moved(s, 0, 2), api.OK
		case x.Col > column:
			return implicit(api.Left), moved(with(s, x.Col), 1, 0), api.OK
		}
		return implicit(api.Left), moved(s, 0, 1), api.OK
	}
	if column > 0 && x.Col < column {
		return implicit(api.Right), without(s), api.OK
	}
	if column > 0 && x.Col == column {
		return implicit(api.Semi), moved(s, 1, 0), api.OK
	}
	return wantedNext(moved(s, 1, 0))
}

// wantedClose is a second reading of what Close returns.
func wantedClose(s api.State) (api.State, bool) {
	if n := len(s.Open); wantedValid(s) && n > 0 && s.Open[n-1] > 0 && s.Wait != 1 {
		return without(s), true
	}
	return api.State{}, false
}

// report is the layout algorithm as the language report tells it: the function L of tokens and of columns, here the innermost first, and without parse-error(t). An empty block is { and }, and then a line; so a Begin is told apart from what it is then. What All returns is held against it. A token of the kind End ends all.
func report(l []api.Token, columns []int) ([]api.Token, bool) {
	if len(l) == 0 {
		if len(columns) == 0 {
			return nil, true
		}
		if columns[0] == 0 {
			return nil, false
		}
		return ahead(api.Token{Kind: api.Right})(report(l, columns[1:]))
	}
	x, rest := l[0], l[1:]
	innermost := 0
	if len(columns) > 0 {
		innermost = columns[0]
	}
	left, semi, right := api.Token{Kind: api.Left, Line: x.Line, Col: x.Col}, api.Token{Kind: api.Semi, Line: x.Line, Col: x.Col}, api.Token{Kind: api.Right, Line: x.Line, Col: x.Col}
	switch {
	case x.Kind == api.End:
		return nil, true
	case x.Kind == api.Line && innermost > 0 && x.Col == innermost:
		return ahead(semi)(report(rest, columns))
	case x.Kind == api.Line && innermost > 0 && x.Col < innermost:
		return ahead(right)(report(l, columns[1:]))
	case x.Kind == api.Line:
		return report(rest, columns)
	case x.Kind == api.Begin && x.Col > innermost:
		return ahead(left)(report(rest, slices.Concat([]int{x.Col}, columns)))
	case x.Kind == api.Begin:
		x.Kind = api.Line
		return ahead(left, right)(report(slices.Concat([]api.Token{x}, rest), columns))
	case x.Kind == api.Punct && x.Text == "}":
		if len(columns) == 0 || innermost > 0 {
			return nil, false
		}
		return ahead(x)(report(rest, columns[1:]))
	case x.Kind == api.Punct && x.Text == "{":
		return ahead(x)(report(rest, slices.Concat([]int{0}, columns)))
	}
	return ahead(x)(report(rest, columns))
}

// ahead puts tokens ahead of others, if these could be made.
func ahead(first ...api.Token) func(rest []api.Token, ok bool) ([]api.Token, bool) {
	return func(rest []api.Token, ok bool) ([]api.Token, bool) {
		if !ok {
			return nil, false
		}
		return slices.Concat(first, rest), true
	}
}
