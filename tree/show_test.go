package tree

import (
	"fmt"
	"testing"

	"offside/api"
)

// checkShowEverywhere holds Show for a node at the root, between others, and deep below. An empty want: it is not valid.
func checkShowEverywhere(t *testing.T, n api.Node, want string) {
	t.Helper()
	x, y := leaf(api.Var, "x"), node(api.List)
	for _, c := range []struct {
		n             api.Node
		before, after string
	}{
		{n, "", ""}, {node(api.Do, n), "(27 ", ")"}, {node(api.Do, x, n), "(27 1\"x\" ", ")"}, {node(api.Do, n, x), "(27 ", " 1\"x\")"}, {node(api.Do, y, n, x), "(27 (6) ", " 1\"x\")"},
		{node(api.Block, node(api.Case, x, node(api.Paren, y, node(api.Module, n), x)), y), "(2 (26 1\"x\" (4 (6) (53 ", ") 1\"x\")) (6))"},
		{chain(300, node(api.Neither, n, x)), "(27 " + repeat("(27 ", 298) + "(3 ", " 1\"x\")" + repeat(")", 299)},
	} {
		if want == "" {
			checkShow(t, c.n, "", api.ErrTree)
		} else {
			checkShow(t, c.n, c.before+want+c.after, api.OK)
			checkUndone(t, c.n, c.before+want+c.after)
		}
	}
}

func repeat(s string, n int) string {
	out := ""
	for range n {
		out += s
	}
	return out
}

func TestShowForms(t *testing.T) {
	for form := -3; form <= api.Kinds+300; form++ {
		want := ""
		if form >= 0 && form < 22 {
			want = fmt.Sprintf(`%d"t"`, form)
		}
		checkShowEverywhere(t, leaf(form, "t"), want)
	}
	for form, want := range map[int]string{0: `0""`, 1: `1""`, 9: `9""`, 10: `10""`, 21: `21""`, 22: "", -1: "", least: "", most: "", 1 << 32: "", 256: ""} {
		checkShowEverywhere(t, leaf(form, ""), want)
	}
}

func TestShowKinds(t *testing.T) {
	for kind := -3; kind <= api.Nodes+300; kind++ {
		for form := -2; form <= 22; form++ {
			if kind == api.Leaf {
				continue
			}
			want := ""
			if kind >= 2 && kind < 54 && (form == 0 || form == 1) {
				want = fmt.Sprintf("(%d%s)", kind, []string{"", "!"}[form])
			}
			if want == "" && kind%5 > 0 && kind > 60 {
				continue
			}
			checkShowEverywhere(t, api.Node{Kind: kind, Form: form, Line: 5, Col: 7}, want)
		}
	}
	for _, x := range []int{least, least + 1, least + 2, -1, 54, 256 + 2, 1<<32 + 2, most - 1, most} {
		checkShowEverywhere(t, api.Node{Kind: x}, "")
		checkShowEverywhere(t, api.Node{Kind: api.Do, Form: x}, "")
		checkShowEverywhere(t, api.Node{Kind: api.Do, Form: x, Kids: []api.Node{leaf(1, "")}}, "")
	}
}

// TestShowMixed has a Leaf with kids, other nodes with a text, and what is valid for the one and not for the other.
func TestShowMixed(t *testing.T) {
	for _, kids := range [][]api.Node{{{}}, {leaf(1, "x")}, {node(api.Do)}, {leaf(1, ""), leaf(1, "")}} {
		checkShowEverywhere(t, api.Node{Kind: api.Leaf, Form: api.Var, Text: "x", Kids: kids}, "")
		checkShowEverywhere(t, api.Node{Kind: api.Leaf, Kids: kids}, "")
	}
	checkShowEverywhere(t, api.Node{Kind: api.Leaf, Form: api.Var, Text: "x", Kids: []api.Node{}}, `1"x"`)
	for _, text := range []string{"x", " ", "\x00", "(2)", "\""} {
		for _, kind := range []int{api.Block, api.Ops, api.Module} {
			checkShowEverywhere(t, api.Node{Kind: kind, Text: text}, "")
			checkShowEverywhere(t, api.Node{Kind: kind, Form: 1, Text: text, Kids: []api.Node{leaf(1, "x")}}, "")
		}
	}
	checkShowEverywhere(t, leaf(2, "x"), `2"x"`)
	checkShowEverywhere(t, api.Node{Kind: api.Do, Form: 2}, "")
	checkShowEverywhere(t, api.Node{Kind: api.Nodes - 1, Form: 1, Kids: []api.Node{leaf(21, "x"), node(2)}}, `(53! 21"x" (2))`)
	checkShowEverywhere(t, api.Node{}, "")
	checkShowEverywhere(t, api.Node{Form: 1, Text: "x"}, "")
	// a node that is valid, below one that is not
	checkShowEverywhere(t, node(api.NoNode, leaf(1, "x")), "")
	checkShowEverywhere(t, node(api.Do, leaf(1, "x"), node(api.Do, leaf(1, "y"), leaf(-1, "z")), leaf(1, "x")), "")
}

func TestShowBytes(t *testing.T) {
	for c := range 256 {
		b := string([]byte{byte(c)})
		want := b
		if c < 32 || c > 126 || c == 34 || c == 92 {
			want = fmt.Sprintf("\\%02x", c)
		}
		checkShowEverywhere(t, leaf(api.Text, b), `14"`+want+`"`)
		checkShowEverywhere(t, leaf(api.Text, "a"+b+b+"b"), `14"a`+want+want+`b"`)
	}
	for _, c := range []struct{ text, want string }{
		{"", ""}, {"\\", `\5c`}, {"\"", `\22`}, {"\\41", `\5c41`}, {"é", `\c3\a9`}, {"\n\t\r\x00\x1f \x7f~\x80\xff", `\0a\09\0d\00\1f \7f~\80\ff`}, {"\\\\\"\"", `\5c\5c\22\22`}, {"'(2! 1)", "'(2! 1)"},
	} {
		checkShowEverywhere(t, leaf(api.Var, c.text), `1"`+c.want+`"`)
	}
}

// TestShowPlaces holds that places do not count.
func TestShowPlaces(t *testing.T) {
	for _, at := range []int{least, -1, 0, 1, 22, 54, most} {
		x := api.Node{Kind: api.Leaf, Form: 1, Text: "x", Line: at, Col: at}
		checkShowEverywhere(t, x, `1"x"`)
		checkShowEverywhere(t, api.Node{Kind: api.Do, Line: at, Col: at, Kids: []api.Node{x, x}}, `(27 1"x" 1"x")`)
	}
}
