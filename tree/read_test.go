package tree

import (
	"fmt"
	"math/rand"
	"slices"
	"strings"
	"testing"

	"offside/api"
)

// trees are texts of trees, and the trees.
func trees() map[string]api.Node {
	form := func(n api.Node) api.Node {
		n.Form = 1
		return n
	}
	x, y := leaf(api.Var, "x"), leaf(api.Op, "+")
	return map[string]api.Node{
		`0""`: leaf(0, ""), `1"x"`: x, `9" "`: leaf(9, " "), `10"10"`: leaf(10, "10"), `19"("`: leaf(19, "("), `20")"`: leaf(20, ")"), `21"!"`: leaf(21, "!"),
		`1"\22"`: leaf(1, `"`), `1"\5c"`: leaf(1, `\`), `1"\5c22"`: leaf(1, `\22`), `14"\22\c3\a9\5c\0a\22"`: leaf(14, "\"é\\\n\""), `1"\00\1f\7f\80\ff ~"`: leaf(1, "\x00\x1f\x7f\x80\xff ~"), `1"(2 1"`: leaf(1, "(2 1"),
		`(2)`: node(2), `(2!)`: form(node(2)), `(9)`: node(9), `(10)`: node(10), `(19!)`: form(node(19)), `(20)`: node(20), `(49)`: node(49), `(50)`: node(50), `(53)`: node(53), `(53!)`: form(node(53)),
		`(2 (2))`: node(2, node(2)), `(2! (2!))`: form(node(2, form(node(2)))), `(2 (2!))`: node(2, form(node(2))), `(2! (2))`: form(node(2, node(2))), `(2 (2) (2))`: node(2, node(2), node(2)),
		`(17 1"x" 5"+")`: node(17, x, y), `(17 1"x" (18! 5"+"))`: node(17, x, form(node(18, y))), `(17 (18 5"+") 1"x")`: node(17, node(18, y), x), `(27! (27 (27 1"x")) 1"x" (2) 5"+")`: form(node(27, node(27, node(27, x)), x, node(2), y)),
		`(2 (3) (4 (5) (6!)) (7 (8)))`: node(2, node(3), node(4, node(5), form(node(6))), node(7, node(8))),
	}
}

func TestReadTrees(t *testing.T) {
	for s, n := range trees() {
		checkRead(t, s, n, api.OK)
		checkUndone(t, n, s)
		for i := range s { // each proper beginning, and what stands behind a whole tree
			checkRead(t, s[:i], api.Node{}, api.ErrTree)
		}
		for c := range 256 {
			checkRead(t, s+string([]byte{byte(c)}), api.Node{}, api.ErrTree)
		}
		for _, more := range []string{s, " " + s, " 1\"x\"", "(2)", "\n", "  ", "x", "\x00"} {
			checkRead(t, s+more, api.Node{}, api.ErrTree)
			checkRead(t, "(2 "+s+more+"))", api.Node{}, api.ErrTree)
		}
		for _, more := range []string{" ", "\n", "\t", "(", ")", "!", "0", "\"", "\ufeff", "\x00"} {
			checkRead(t, more+s, api.Node{}, api.ErrTree)
		}
		checkRead(t, "(2 "+s+")", node(2, n), api.OK)
		checkRead(t, "(2 "+s+" "+s+")", node(2, n, n), api.OK)
	}
}

func TestReadNumbers(t *testing.T) {
	for number := range 1200 {
		want, e := api.Node{}, api.ErrTree
		if number < api.Kinds {
			want, e = leaf(number, "x"), api.OK
		}
		checkRead(t, fmt.Sprintf(`%d"x"`, number), want, e)
		checkRead(t, fmt.Sprintf(`0%d"x"`, number), api.Node{}, api.ErrTree)
		for form, mark := range []string{"", "!"} {
			want, e = api.Node{}, api.ErrTree
			if number >= 2 && number < api.Nodes {
				want, e = api.Node{Kind: number, Form: form}, api.OK
			}
			checkRead(t, fmt.Sprintf("(%d%s)", number, mark), want, e)
			checkRead(t, fmt.Sprintf("(0%d%s)", number, mark), api.Node{}, api.ErrTree)
			checkRead(t, fmt.Sprintf("(2 (%d%s 1\"\"))", number, mark), kidsIf(want, e), e)
		}
	}
	for _, number := range []string{"", " ", "-1", "+1", "-0", "00", "01", "02", "000", "002", "0053", "100", "255", "256", "258", "1000000000000000000002", "18446744073709551618", "9223372036854775810", "4294967298", "2.", "2 ", " 2", "0x2", "２", "²", "2_", "1e0", "!", "!2", "a", "(2)", "2!!", "2!2", "2\"", "2! "} {
		checkRead(t, number+`"x"`, api.Node{}, api.ErrTree)
		checkRead(t, "("+number+")", api.Node{}, api.ErrTree)
		checkRead(t, "(2 "+number+`"x")`, api.Node{}, api.ErrTree)
		checkRead(t, "(2 ("+number+"))", api.Node{}, api.ErrTree)
	}
	for _, s := range []string{`1!"x"`, `1 "x"`, `1"x"!`, `("x")`, `(1"x")`, `(1 "x")`, `(1)`, `(1!)`, `(1 1"x")`, `(2 1)`, `(2 2)`, `2`, `21`, `1'x'`, `2)`} {
		checkRead(t, s, api.Node{}, api.ErrTree)
	}
}

// TestReadDigits has every byte in a number.
func TestReadDigits(t *testing.T) {
	for c := range 256 {
		for _, s := range []string{"%s", "1%s", "%s1", "2%s", "%s2", "5%s", "%s5", "%s%s"} {
			s = strings.ReplaceAll(s, "%s", string([]byte{byte(c)}))
			for _, text := range []string{s + `"x"`, "(" + s + ")", "(" + s + "!)", "(" + s + ` 1"")`, "(2 (" + s + `) 1"")`} {
				want, e := wantedRead(text)
				checkRead(t, text, want, e)
			}
		}
	}
}

// kidsIf returns the tree that holds n with an empty leaf, if there is one.
func kidsIf(n api.Node, e api.Errno) api.Node {
	if e != api.OK {
		return api.Node{}
	}
	n.Kids = []api.Node{leaf(1, "")}
	return node(2, n)
}

// TestReadBytes has every byte in a leaf's text, and every two behind a \.
func TestReadBytes(t *testing.T) {
	for c := range 256 {
		b := string([]byte{byte(c)})
		want, e := leaf(1, b), api.OK
		if c < 32 || c > 126 || c == '"' || c == '\\' {
			want, e = api.Node{}, api.ErrTree
		}
		checkRead(t, `1"`+b+`"`, want, e)
		if e == api.OK {
			want.Text = "a" + b + "b"
		}
		checkRead(t, `1"a`+b+`b"`, want, e)
		for d := range 256 {
			s := "\\" + b + string([]byte{byte(d)})
			want, e := api.Node{}, api.ErrTree
			high, low := strings.Index("0123456789abcdef", b), strings.Index("0123456789abcdef", s[2:])
			if high >= 0 && low >= 0 {
				if x := 16*high + low; x < 32 || x > 126 || x == 34 || x == 92 {
					want, e = leaf(1, string([]byte{byte(x)})), api.OK
				}
			}
			checkRead(t, `1"`+s+`"`, want, e)
			if e == api.OK {
				want.Text = "5" + want.Text + "c2"
			}
			checkRead(t, `1"5`+s+`c2"`, want, e)
		}
	}
	for _, s := range []string{`1"\`, `1"\2`, `1"\22`, `1"\"`, `1"\2"`, `1"\ 2"`, `1"\"2"`, `1"\\22"`, `1"\C3"`, `1"\cA"`, `1"\Ca"`, `1"\0A"`, `1"\5C"`, `1"\x22"`, `1"\n"`, `1"\u0022"`, `1"é"`, `1"\41"`, `1"\20"`, `1"\7e"`, `1"\61"`, `1"\21"`, `1"\23"`, `1"\5b"`, `1"\5d"`, "1\"\n\"", "1\"\x7f\"", `1"""`, `1"`, `1`, `"`, `""`, `"x"`, `x`} {
		checkRead(t, s, api.Node{}, api.ErrTree)
		checkRead(t, "(2 "+s+")", api.Node{}, api.ErrTree)
		checkRead(t, "(2 "+s, api.Node{}, api.ErrTree)
	}
}

func TestReadSpaces(t *testing.T) {
	for _, s := range []string{"", " ", "(", ")", "()", "( )", "(2 )", "( 2)", "(2  )", "(2  1\"\")", "(2 1\"\" )", "(2 1\"\"  1\"\")", "(2 1\"\"1\"\")", "(21\"\")", "(2!1\"\")", "(2(2))", "(2!(2))", "(2 (2)(2))", "(2 !)", "(2 ! 1\"\")", "(2! )", "(2!  1\"\")", "(2\t1\"\")", "(2\n1\"\")", "(2 1 \"\")", "(2 1\"\") ", " (2)", "(2)\n", "(2))", "((2)", "((2))", "(2 ((2)))", "(2 ())", "(2]", "[2]", "(2 (2)", "(2 1\"\"", "(2 \x00)", "(2,1\"\")"} {
		checkRead(t, s, api.Node{}, api.ErrTree)
	}
}

// deep returns the beginning of a text with n nodes in one another, and how it is closed.
func deep(n int, head string) (string, string) {
	return strings.Repeat(head+" ", n), strings.Repeat(")", n)
}

func TestReadDeep(t *testing.T) {
	for _, head := range []string{"(2", "(2!", "(53", "(27! (2) 1\"\\22 \" (3!)"} {
		for _, inner := range []string{`1"x"`, `21" "`, "(3)", "(53!)"} {
			for _, n := range []int{998, 999} {
				before, after := deep(n, head)
				got, e := Read(before + inner + after)
				if e != api.OK || Depth(got) != n+1 {
					t.Fatalf("K5: %d nodes in one another: %d", n+1, e)
				}
				checkUndone(t, got, before+inner+after)
				checkRead(t, before+inner+after+")", api.Node{}, api.ErrTree)
				checkRead(t, before+inner, api.Node{}, api.ErrTree)
				checkRead(t, before, api.Node{}, api.ErrTree)
				checkRead(t, before+inner+after[1:], api.Node{}, api.ErrTree)
			}
			for _, n := range []int{1000, 1001, 1002, 5000} {
				before, after := deep(n, head)
				checkRead(t, before+inner+after, api.Node{}, api.ErrDeep)
				checkRead(t, before+inner, api.Node{}, api.ErrDeep)
				checkRead(t, before, api.Node{}, api.ErrDeep)
			}
		}
		before, after := deep(1000, head)
		if !strings.Contains(head, " ") { // so that the innermost node has no kids
			s := before[:len(before)-1]
			checkRead(t, s, api.Node{}, api.ErrTree)
			got, e := Read(s + after)
			if e != api.OK || Depth(got) != 1000 {
				t.Errorf("K5: 1000 nodes in one another: %d", e)
			}
			checkUndone(t, got, s+after)
		}
		for c := range 256 { // behind the space
			checkRead(t, before+string([]byte{byte(c)}), api.Node{}, api.ErrDeep)
			checkRead(t, before+string([]byte{byte(c), byte(c)})+after, api.Node{}, api.ErrDeep)
		}
		for _, rest := range []string{"", ")", " ", "(", "(1)", "(99)", "01\"\"", "1\"\\41\"", "\x00", "(2) x", "(2)" + after + after, "(2 "} {
			checkRead(t, before+rest, api.Node{}, api.ErrDeep)
		}
	}
}

// TestReadDeepWrong has bytes that cannot belong ahead of the space that is too deep.
func TestReadDeepWrong(t *testing.T) {
	before, after := deep(999, "(2")
	for _, s := range []string{"( ", "(0 ", "(1 ", "(01 ", "(02 ", "(54 ", "(99 ", "(100 ", "(2!! ", "(2 !", "(2!1 ", "(2\t", "(2.", "(2\x00", "[2 ", "2 ", "1\" ", "1\"\" ", "() ", "(2) ", "(2! ", "(1! ", "(1\"\" ", "(! ", "(2) (3) ", "(2) (3", "(2) (3)  ", "1\"x\" (4 ", "1\"\\41\" (4 ", "1\"\\4", "1\"\n\" (4 ", "1\"x (4 ", "22\"\" (4 ", "(20 1", "x (4 ", " (4 "} {
		for _, rest := range []string{"", "1\"x\"", "1\"x\")" + after, ")" + after} {
			_, e := wantedRead(before + s + rest)
			checkError(t, before+s+rest, e)
		}
	}
	whole := before + "(2 (2)" + after + ")"
	for _, i := range []int{0, 1, 2, 3, len(before) - 1, len(before), len(before) + 1, len(before) + 2, len(before) + 3, len(before) + 4} {
		for c := range 256 {
			s := whole[:i] + string([]byte{byte(c)}) + whole[i+1:]
			_, e := wantedRead(s)
			checkError(t, s, e)
			s = whole[:i] + string([]byte{byte(c)}) + whole[i:]
			_, e = wantedRead(s)
			checkError(t, s, e)
		}
	}
	for i := range len(before) + 2 {
		checkRead(t, whole[:i]+"?"+whole[i:], api.Node{}, api.ErrTree)
		checkRead(t, whole[:i], api.Node{}, api.ErrTree)
	}
	checkRead(t, whole[:len(before)+3]+"?"+whole[len(before)+3:], api.Node{}, api.ErrDeep)
}

// checkError holds the error of Read alone.
func checkError(t *testing.T, s string, want api.Errno) {
	t.Helper()
	if n, e := Read(s); e != want || e != api.OK && !isZero(n) {
		t.Fatalf("K5: Read(%q .. %q) is the error %d, not %d", s[:min(20, len(s))], s[max(0, min(2990, len(s)-20)):], e, want)
	}
}

func TestReadLong(t *testing.T) {
	long := func(n int) string { return `1"` + strings.Repeat("x", n-3) + `"` }
	got, e := Read(long(api.MaxText))
	if e != api.OK || got.Text != strings.Repeat("x", api.MaxText-3) {
		t.Errorf("K5: MaxText bytes: %d", e)
	}
	checkRead(t, long(api.MaxText+1), api.Node{}, api.ErrLong)
	group := ` (3 (2) (2) 1"` + strings.Repeat("x", 512-16) + `")`
	const groups = api.MaxText/512 - 1
	many := "(2!" + strings.Repeat(group, groups) + strings.Repeat(" (2)", 127) + ")"
	got, e = Read(many)
	if len(many) != api.MaxText || e != api.OK || len(got.Kids) != groups+127 || Size(got) != 1+4*groups+127 {
		t.Errorf("K5: %d kids of %d bytes: %d", len(got.Kids), len(many), e)
	}
	if s, e := Show(got); s != many || e != api.OK {
		t.Errorf("K6: %d bytes: %d", len(s), e)
	}
	checkRead(t, many+" ", api.Node{}, api.ErrLong)
	for _, c := range []byte("x(1") {
		wrong := strings.Repeat(string(c), api.MaxText)
		checkRead(t, wrong, api.Node{}, api.ErrTree)
		checkRead(t, wrong+"x", api.Node{}, api.ErrLong)
		checkRead(t, wrong+wrong, api.Node{}, api.ErrLong)
	}
	before, _ := deep(1000, "(2")
	wrong := before + strings.Repeat("x", api.MaxText-len(before))
	checkRead(t, wrong, api.Node{}, api.ErrDeep)
	checkRead(t, wrong+"x", api.Node{}, api.ErrLong)
	checkRead(t, before+strings.Repeat(" ", api.MaxText), api.Node{}, api.ErrLong)
}

// TestReadMemory holds that no two nodes share their kids.
func TestReadMemory(t *testing.T) {
	s := `(2 (3 1"a" 1"b") (4 1"c" 1"d" (5 1"e")) (6))`
	n, _ := Read(s)
	want, _ := Read(s)
	kept := n.Kids[0]
	_ = append(n.Kids[1].Kids, leaf(1, "z"))
	_ = append(n.Kids[0].Kids, leaf(1, "z"))
	_ = append(n.Kids, leaf(1, "z"))
	if !equal(n, want) || !equal(kept, want.Kids[0]) {
		t.Errorf("R3: %v", n)
	}
}

// fits returns all trees whose text has n bytes of the alphabet.
func fits(n int, alphabet string) []api.Node {
	var out []api.Node
	for form := range api.Kinds {
		digits := fmt.Sprint(form)
		for _, text := range contents(n-2-len(digits), alphabet) {
			out = append(out, leaf(form, text))
		}
	}
	for kind := 2; kind < api.Nodes; kind++ {
		for form := range 2 {
			for _, kids := range kidsOf(n-2-len(fmt.Sprint(kind))-form, alphabet) {
				out = append(out, api.Node{Kind: kind, Form: form, Kids: kids})
			}
		}
	}
	return slices.DeleteFunc(out, func(x api.Node) bool {
		s, _ := wantedShow(x)
		return strings.Trim(s, alphabet) != ""
	})
}

// contents returns the texts of leaves that are written in n bytes of the alphabet.
func contents(n int, alphabet string) []string {
	if n < 0 {
		return nil
	}
	if n == 0 {
		return []string{""}
	}
	var out []string
	for c := range 256 {
		one, _ := wantedShow(leaf(1, string([]byte{byte(c)})))
		one = one[2 : len(one)-1]
		if strings.Trim(one, alphabet) != "" {
			continue
		}
		for _, rest := range contents(n-len(one), alphabet) {
			out = append(out, string([]byte{byte(c)})+rest)
		}
	}
	return out
}

// kidsOf returns the lists of kids that are written, with a space before each, in n bytes.
func kidsOf(n int, alphabet string) [][]api.Node {
	if n == 0 {
		return [][]api.Node{nil}
	}
	var out [][]api.Node
	for size := 3; size < n; size++ {
		for _, rest := range kidsOf(n-1-size, alphabet) {
			for _, first := range fits(size, alphabet) {
				out = append(out, append([]api.Node{first}, rest...))
			}
		}
	}
	return out
}

// TestReadEverywhere holds that Read takes the texts of trees and nothing else, over all short texts of some bytes.
func TestReadEverywhere(t *testing.T) {
	for _, x := range []struct {
		alphabet string
		most     int
	}{{"( )!\"\\0125c", 6}, {"( )!\"\\02", 7}} {
		checkEverywhere(t, x.alphabet, x.most)
	}
}

func checkEverywhere(t *testing.T, alphabet string, most int) {
	t.Helper()
	texts := map[string]api.Node{}
	for n := range most + 1 {
		for _, x := range fits(n, alphabet) {
			s, _ := wantedShow(x)
			texts[s] = x
		}
	}
	taken := 0
	var hold func(s []byte, n int)
	hold = func(s []byte, n int) {
		got, e := Read(string(s))
		if e == api.OK {
			taken++
			if x, ok := texts[string(s)]; !ok || !equal(got, x) {
				t.Fatalf("K5: %q is read as %v", s, got)
			}
		} else if e != api.ErrTree || !isZero(got) {
			t.Fatalf("K5: Read(%q) = %v, %d", s, got, e)
		}
		if n > 0 {
			for i := range len(alphabet) {
				hold(append(s, alphabet[i]), n-1)
			}
		}
	}
	hold(make([]byte, 0, most), most)
	if taken != len(texts) || taken < 3000 {
		t.Errorf("K5: %d of %d texts are read", taken, len(texts))
	}
}

// TestReadParts holds Read against its second reading over lists of parts.
func TestReadParts(t *testing.T) {
	parts := []string{"(2", "(2!", "(53 ", "(1", " ", ")", `1"x"`, `21"\22`, `"`, "!", ` 0""`}
	var hold func(s string, n int)
	hold = func(s string, n int) {
		want, e := wantedRead(s)
		checkRead(t, s, want, e)
		if n > 0 {
			for _, x := range parts {
				hold(s+x, n-1)
			}
		}
	}
	hold("", 5)
}

// TestReadChanged holds Read against its second reading over texts of trees with some bytes changed.
func TestReadChanged(t *testing.T) {
	r := rand.New(rand.NewSource(11))
	read := 0
	for range 60000 {
		s, _ := wantedShow(anyTree(r, 1+r.Intn(12), 0))
		for range 1 + r.Intn(2) {
			i := r.Intn(len(s) + 1)
			c := string("( )!\"\\0123456789abcf\n\x80"[r.Intn(22)])
			switch r.Intn(4) {
			case 0:
				s = s[:i] + c + s[i:]
			case 1:
				s = s[:i] + s[min(i+1, len(s)):]
			case 2:
				s = s[:i] + c + s[min(i+1, len(s)):]
			case 3:
				j := i + r.Intn(len(s)-i+1)
				s = s[:j] + s[i:]
			}
		}
		want, e := wantedRead(s)
		checkRead(t, s, want, e)
		if e == api.OK {
			read++
			checkUndone(t, want, s)
		}
	}
	for range 60000 {
		s := anyText(r) + anyText(r)
		want, e := wantedRead(s)
		checkRead(t, s, want, e)
	}
	if read < 2000 {
		t.Errorf("K5: only %d trees", read)
	}
}
