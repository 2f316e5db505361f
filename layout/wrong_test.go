package layout

import (
	"testing"

	"offside/api"
)

// checkWrong holds that the state is not valid.
func checkWrong(t *testing.T, s api.State) {
	t.Helper()
	checkNext(t, s, api.Token{}, api.State{}, api.ErrArg)
	checkClose(t, s, api.State{}, false)
}

func TestWrongPositions(t *testing.T) {
	for _, s := range []string{"", "x", "{3}", "<3> x", "{ }"} {
		l := toks(s)
		for _, where := range []int{least, least + 1, -2, -1, len(l) + 1, len(l) + 2, most - 1, most} {
			for wait := -1; wait <= 3; wait++ {
				checkWrong(t, at(where, wait).in(l))
				checkWrong(t, at(where, wait, 0).in(l))
				checkWrong(t, at(where, wait, 3).in(l))
			}
		}
	}
}

func TestWrongColumns(t *testing.T) {
	for _, col := range []int{least, least + 1, -100, -1} {
		for _, open := range [][]int{{col}, {col, 1}, {1, col}, {col, 0}, {0, col}, {1, col, 2}, {0, 0, 0, col, 0}, {col, col}, {3, 4, 5, col}} {
			for _, s := range []string{"", "x", "}", "{", "<3>", "{3}", "{9}"} {
				l := toks(s)
				for where := range len(l) + 1 {
					for wait := range 3 {
						checkWrong(t, at(where, wait, open...).in(l))
					}
				}
			}
		}
	}
	// columns that need not ascend, and may be any that is not negative
	l := toks("x")
	checkNext(t, at(0, 0, most, 0, 1, most, 3, 3, 0).in(l), l[0], at(1, 0, most, 0, 1, most, 3, 3, 0).in(l), api.OK)
}

func TestWrongWaits(t *testing.T) {
	begin := toks("x {3} y")
	for _, wait := range []int{least, -3, -2, -1, 3, 4, 100, most - 1, most} {
		for where := range 4 {
			for _, open := range [][]int{nil, {0}, {1}, {4}} {
				checkWrong(t, at(where, wait, open...).in(begin))
			}
		}
	}
	// without a Begin there: a Begin before or behind it is none
	for _, wait := range []int{1, 2} {
		for _, where := range []int{0, 2, 3} {
			checkWrong(t, at(where, wait).in(begin))
			checkWrong(t, at(where, wait, 4).in(begin))
		}
		checkWrong(t, at(0, wait).in(nil))
		for _, kind := range kinds() {
			for _, text := range texts {
				l := []api.Token{{Kind: kind, Text: text, Line: 1, Col: 3}}
				if kind != api.Begin {
					checkWrong(t, at(0, wait, 4).in(l))
					continue
				}
				if _, s, e := Next(at(0, wait, 4).in(l)); e != api.OK || s.Wait != 2 {
					t.Errorf("I1: a Begin with the text %q: %d", text, e)
				}
			}
		}
	}
}

func TestClose(t *testing.T) {
	for _, x := range []struct {
		toks     string
		from, to spot
		ok       bool
	}{
		{"", at(0, 0), spot{}, false}, {"", at(0, 0, 0), spot{}, false}, {"", at(0, 0, 4), at(0, 0), true}, {"", at(0, 0, 1), at(0, 0), true},
		{"", at(0, 0, 4, 0), spot{}, false}, {"", at(0, 0, 0, 4), at(0, 0, 0), true}, {"", at(0, 0, 5, 4), at(0, 0, 5), true}, {"", at(0, 0, 4, most), at(0, 0, 4), true},
		{"x", at(0, 0, 4), at(0, 0), true}, {"x", at(1, 0, 4), at(1, 0), true}, {"x", at(1, 0, 0), spot{}, false}, {"}", at(0, 0, 0, 4), at(0, 0, 0), true}, {"}", at(0, 0, 0), spot{}, false}, {"<4>", at(0, 0, 4), at(0, 0), true}, {"{", at(0, 0, 7), at(0, 0), true},
		{"{4}", at(0, 0), spot{}, false}, {"{4}", at(0, 1), spot{}, false}, {"{4}", at(0, 2), spot{}, false},
		{"{4}", at(0, 0, 0), spot{}, false}, {"{4}", at(0, 1, 0), spot{}, false}, {"{4}", at(0, 2, 0), spot{}, false},
		{"{4}", at(0, 0, 3), at(0, 0), true}, {"{4}", at(0, 1, 3), spot{}, false}, {"{4}", at(0, 2, 3), at(0, 2), true},
		{"{4}", at(0, 0, 6, 5), at(0, 0, 6), true}, {"{4}", at(0, 1, 6, 5), spot{}, false}, {"{4}", at(0, 2, 6, 5), at(0, 2, 6), true}, {"{4}", at(0, 2, 5, 0), spot{}, false}, {"x {4} y", at(1, 2, 0, 5), at(1, 2, 0), true},
	} {
		l := toks(x.toks)
		after := api.State{}
		if x.ok {
			after = x.to.in(l)
		}
		checkClose(t, x.from.in(l), after, x.ok)
	}
}

// TestCloseAll closes one block after the other, down to one with explicit braces.
func TestCloseAll(t *testing.T) {
	l := toks("x {4} y")
	for _, wait := range []int{0, 2} {
		s := at(1, wait, 9, 0, 3, 5, 4).in(l)
		for n := 4; n >= 2; n-- {
			after := at(1, wait, []int{9, 0, 3, 5}[:n]...).in(l)
			checkClose(t, s, after, true)
			s, _ = Close(s)
		}
		checkClose(t, s, api.State{}, false)
	}
}
