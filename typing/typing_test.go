package typing

import (
	"fmt"
	"math"
	"slices"
	"strconv"
	"strings"
	"testing"

	"offside/api"
)

const least, most = math.MinInt, math.MaxInt

// A form is one of the calls.
type form struct {
	name string
	call func(s api.State, deep int) (api.Node, api.State, api.Errno)
}

var (
	atom = form{"L1: Atom", Atom}
	row  = form{"L2: Row", Row}
	typ  = form{"L3: Type", Type}
	full = form{"L4: Full", Full}
)

var forms = []form{atom, row, typ, full}

// texts are texts that types have, or that look like them, or are none at all.
var texts = []string{"", "(", ")", ",", "[", "]", "->", "=>", "{", "}", ";", "()", "[]", "a", "A", "M.A", "_", "( ", " (", "->>", "→", "::", "forall", "\x00", "\xff"}

// kinds are all kinds that there are, and some that there are not.
func kinds() []int {
	out := []int{least, -2, -1, api.Kinds, api.Kinds + 1, 99, most}
	for kind := range api.Kinds {
		out = append(out, kind)
	}
	return out
}

// word returns the token of a word: {4} is a Begin with the column 4, <4> a Line; a name is one by its first letter and its dots; what begins with a digit is an Int, and what begins with ' an Op of the rest.
func word(s string) api.Token {
	inner := strings.Trim(s, "{}<>")
	first, last := s[0], s[strings.LastIndex(s, ".")+1:]
	switch {
	case first == '\'':
		return api.Token{Kind: api.Op, Text: s[1:]}
	case s == "->" || s == "=>" || s == "=" || s == "::" || s == "|":
		return api.Token{Kind: api.Mark, Text: s}
	case strings.Contains("()[],;{}`", s):
		return api.Token{Kind: api.Punct, Text: s}
	case s == "where" || s == "of" || s == "_":
		return api.Token{Kind: api.Word, Text: s}
	case inner != s:
		col, err := strconv.Atoi(inner)
		if err != nil {
			panic(s)
		}
		if first == '{' {
			return api.Token{Kind: api.Begin, Col: col}
		}
		return api.Token{Kind: api.Line, Col: col}
	case '0' <= first && first <= '9':
		return api.Token{Kind: api.Int, Text: s}
	case last[0] >= 'a' && last != s:
		return api.Token{Kind: api.QVar, Text: s}
	case last[0] >= 'a':
		return api.Token{Kind: api.Var, Text: s}
	case last != s:
		return api.Token{Kind: api.QCon, Text: s}
	}
	return api.Token{Kind: api.Con, Text: s}
}

// toks returns the tokens of words that are parted by blanks, each at a place of its own.
func toks(s string) []api.Token {
	var out []api.Token
	for i, w := range strings.Fields(s) {
		x := word(w)
		x.Line = 100 + i
		if !isMark(x) {
			x.Col = 50 + i
		}
		out = append(out, x)
	}
	return out
}

func isMark(t api.Token) bool { return t.Kind == api.Begin || t.Kind == api.Line }

func isName(t api.Token) bool { return slices.Contains([]int{api.Var, api.Con, api.QCon}, t.Kind) }

func state(s string) api.State { return api.State{Toks: toks(s)} }

// moved returns the state at another position.
func moved(s api.State, at int) api.State {
	s.At = at
	return s
}

// brief shows a tree: of a leaf its text, and of another node a letter with its kids in ⟨ ⟩.
func brief(n api.Node) string {
	if n.Kind == api.Leaf {
		return n.Text
	}
	letter, ok := map[int]string{api.Head: "H", api.Paren: "P", api.Tuple: "T", api.List: "L", api.TApply: "A", api.Arrow: "R", api.Qual: "Q", api.NoNode: "-"}[n.Kind]
	if !ok {
		letter = strconv.Itoa(n.Kind)
	}
	var kids []string
	for _, k := range n.Kids {
		kids = append(kids, brief(k))
	}
	return letter + "⟨" + strings.Join(kids, " ") + "⟩"
}

// same holds two trees against each other with all their fields.
func same(a, b api.Node) bool {
	return a.Kind == b.Kind && a.Form == b.Form && a.Text == b.Text && a.Line == b.Line && a.Col == b.Col && slices.EqualFunc(a.Kids, b.Kids, same)
}

func equal(a, b api.State) bool {
	return a.At == b.At && a.Wait == b.Wait && slices.Equal(a.Open, b.Open) && slices.Equal(a.Toks, b.Toks)
}

func show(s api.State) string {
	var out []string
	for _, x := range s.Toks[:min(len(s.Toks), 40)] {
		out = append(out, fmt.Sprintf("%d %.40q %d:%d", x.Kind, x.Text, x.Line, x.Col))
	}
	return fmt.Sprintf("{[%s] at %d, open %v, wait %d}", strings.Join(out, ", "), s.At, s.Open, s.Wait)
}

// roomy returns the state with room behind its slices, which nobody may write into.
func roomy(s api.State) api.State {
	s.Toks = append(slices.Clone(s.Toks), api.Token{Kind: 77, Text: "room", Line: 77, Col: 77}, api.Token{Kind: 78})[:len(s.Toks)]
	s.Open = append(slices.Clone(s.Open), 7777, 7778)[:len(s.Open)]
	return s
}

// checkRoom holds the argument of a call against what it was.
func checkRoom(t *testing.T, given, was api.State) {
	t.Helper()
	n, m := len(was.Toks), len(was.Open)
	rest := given.Toks[n : n+2]
	if !equal(given, was) || rest[0] != (api.Token{Kind: 77, Text: "room", Line: 77, Col: 77}) || rest[1] != (api.Token{Kind: 78}) || !slices.Equal(given.Open[m:m+2], []int{7777, 7778}) {
		t.Fatalf("R3: the argument %s was changed to %s", show(was), show(given))
	}
}

// check holds a call, twice, and that its argument stays what it was.
func check(t *testing.T, f form, s api.State, deep int, want api.Node, after api.State, e api.Errno) {
	t.Helper()
	given := roomy(s)
	for range 2 {
		n, got, err := f.call(given, deep)
		if !same(n, want) || !equal(got, after) || err != e {
			t.Fatalf("%s(%s, %d) = %s, %s, %d; not %s, %s, %d", f.name, show(s), deep, brief(n), show(got), err, brief(want), show(after), e)
		}
	}
	checkRoom(t, given, s)
}

// leaf returns what a token becomes.
func leaf(t api.Token) api.Node {
	return api.Node{Kind: api.Leaf, Form: t.Kind, Text: t.Text, Line: t.Line, Col: t.Col}
}

// parsed reads a tree as brief shows it; its leaves are the tokens of l, one after the other, which must have their texts.
func parsed(want string, l []api.Token) api.Node {
	want = strings.NewReplacer("⟨", " ⟨ ", "⟩", " ⟩ ").Replace(want)
	letters := map[string]int{"H": api.Head, "P": api.Paren, "T": api.Tuple, "L": api.List, "A": api.TApply, "R": api.Arrow, "Q": api.Qual}
	words := strings.Fields(want)
	stack := []api.Node{{}}
	for i := 0; i < len(words); i++ {
		switch w := words[i]; {
		case w == "⟩":
			n := stack[len(stack)-1]
			stack = stack[:len(stack)-1]
			stack[len(stack)-1].Kids = append(stack[len(stack)-1].Kids, n)
		case i+1 < len(words) && words[i+1] == "⟨":
			stack = append(stack, api.Node{Kind: letters[w]})
			i++
		default:
			if l[0].Text != w {
				panic(want + ": " + w + " is not " + l[0].Text)
			}
			stack[len(stack)-1].Kids = append(stack[len(stack)-1].Kids, leaf(l[0]))
			l = l[1:]
		}
	}
	if len(stack) != 1 || len(stack[0].Kids) != 1 {
		panic(want)
	}
	return stack[0].Kids[0]
}

// checkGood holds that the words are parsed as that tree, up to the position.
func checkGood(t *testing.T, f form, s string, deep int, want string, at int) {
	t.Helper()
	x := state(s)
	check(t, f, x, deep, parsed(want, x.Toks), moved(x, at), api.OK)
}

// checkBad holds that the words are an error at the position.
func checkBad(t *testing.T, f form, s string, deep, at int, e api.Errno) {
	t.Helper()
	x := state(s)
	check(t, f, x, deep, api.Node{}, moved(x, at), e)
}

// A row of a table: words, what they are parsed as, and the position behind it; without a tree, the position of an ErrSyntax.
type example struct {
	s, want string
	at      int
}

func checkTable(t *testing.T, f form, l []example) {
	t.Helper()
	for _, x := range l {
		for _, deep := range []int{9, 100, most} {
			if x.want == "" {
				checkBad(t, f, x.s, deep, x.at, api.ErrSyntax)
			} else {
				checkGood(t, f, x.s, deep, x.want, x.at)
			}
		}
	}
}

// atoms are L1's.
var atoms = []example{
	{"a", "a", 1}, {"A", "A", 1}, {"M.A", "M.A", 1}, {"a b", "a", 1}, {"A ( b )", "A", 1}, {"a -> b", "a", 1}, {"a =>", "a", 1}, {"M.A )", "M.A", 1},
	{"", "", 0}, {"M.a", "", 0}, {"1", "", 0}, {"'+", "", 0}, {"'->", "", 0}, {"where", "", 0}, {"_", "", 0}, {"=", "", 0}, {"->", "", 0}, {"=>", "", 0}, {"-> a", "", 0}, {")", "", 0}, {"]", "", 0}, {",", "", 0}, {";", "", 0}, {"`", "", 0}, {"{", "", 0}, {"{ a }", "", 0},

	{"( )", "H⟨( )⟩", 2}, {"( ) a", "H⟨( )⟩", 2}, {"( ) )", "H⟨( )⟩", 2}, {"( ) ( )", "H⟨( )⟩", 2},
	{"( , )", "H⟨( , )⟩", 3}, {"( , , )", "H⟨( , , )⟩", 4}, {"( , , , , )", "H⟨( , , , , )⟩", 6}, {"( , ) a", "H⟨( , )⟩", 3},
	{"( -> )", "H⟨( -> )⟩", 3}, {"( -> ) -> a", "H⟨( -> )⟩", 3},
	{"[ ]", "H⟨[ ]⟩", 2}, {"[ ] a", "H⟨[ ]⟩", 2}, {"[ ] ]", "H⟨[ ]⟩", 2},
	{"(", "", 1}, {"( =", "", 1}, {"( ]", "", 1}, {"( =>", "", 1}, {"( '->", "", 1}, {"( '+ )", "", 1}, {"( ;", "", 1}, {"( 1 )", "", 1},
	{"( ,", "", 2}, {"( , ,", "", 3}, {"( , a )", "", 2}, {"( , ]", "", 2}, {"( , -> )", "", 2}, {"( , , a", "", 3}, {"( , ( ) )", "", 2},
	{"( ->", "", 2}, {"( -> a )", "", 2}, {"( -> -> )", "", 2}, {"( -> , )", "", 2}, {"( -> ]", "", 2}, {"( -> ( ) )", "", 2},
	{"[", "", 1}, {"[ )", "", 1}, {"[ ,", "", 1}, {"[ , ]", "", 1}, {"[ -> ]", "", 1}, {"[ = ]", "", 1},

	{"( a )", "P⟨( a )⟩", 3}, {"( A )", "P⟨( A )⟩", 3}, {"( M.A ) b", "P⟨( M.A )⟩", 3}, {"( ( ) )", "P⟨( H⟨( )⟩ )⟩", 4}, {"( ( a ) )", "P⟨( P⟨( a )⟩ )⟩", 5}, {"( [ ] )", "P⟨( H⟨[ ]⟩ )⟩", 4}, {"( ( -> ) )", "P⟨( H⟨( -> )⟩ )⟩", 5},
	{"( a b )", "P⟨( A⟨a b⟩ )⟩", 4}, {"( a -> b )", "P⟨( R⟨a -> b⟩ )⟩", 5}, {"( a b -> c )", "P⟨( R⟨A⟨a b⟩ -> c⟩ )⟩", 6}, {"( a b -> [ c ] -> d e ) f", "P⟨( R⟨A⟨a b⟩ -> L⟨[ c ]⟩ -> A⟨d e⟩⟩ )⟩", 11},
	{"( a , b )", "T⟨( a , b )⟩", 5}, {"( a , b , c )", "T⟨( a , b , c )⟩", 7}, {"( a , b , c , D , e )", "T⟨( a , b , c , D , e )⟩", 11}, {"( a b , c )", "T⟨( A⟨a b⟩ , c )⟩", 6}, {"( a , b c -> d )", "T⟨( a , R⟨A⟨b c⟩ -> d⟩ )⟩", 8}, {"( a -> b , c -> d )", "T⟨( R⟨a -> b⟩ , R⟨c -> d⟩ )⟩", 9},
	{"( ( a , b ) , ( c ) )", "T⟨( T⟨( a , b )⟩ , P⟨( c )⟩ )⟩", 11}, {"( ( ) , ( , ) )", "T⟨( H⟨( )⟩ , H⟨( , )⟩ )⟩", 8}, {"( ( -> ) , [ ] )", "T⟨( H⟨( -> )⟩ , H⟨[ ]⟩ )⟩", 8},
	{"[ a ]", "L⟨[ a ]⟩", 3}, {"[ M.A ] b", "L⟨[ M.A ]⟩", 3}, {"[ [ ] ]", "L⟨[ H⟨[ ]⟩ ]⟩", 4}, {"[ [ a ] ]", "L⟨[ L⟨[ a ]⟩ ]⟩", 5}, {"[ a b ]", "L⟨[ A⟨a b⟩ ]⟩", 4}, {"[ a -> b ]", "L⟨[ R⟨a -> b⟩ ]⟩", 5}, {"[ ( a , b ) ]", "L⟨[ T⟨( a , b )⟩ ]⟩", 7}, {"[ ( a ) ]", "L⟨[ P⟨( a )⟩ ]⟩", 5},

	{"( a", "", 2}, {"( a ]", "", 2}, {"( a =", "", 2}, {"( a => b )", "", 2}, {"( a ;", "", 2}, {"( a ,", "", 3}, {"( a , )", "", 3}, {"( a , , b )", "", 3}, {"( a , b", "", 4}, {"( a , b ]", "", 4}, {"( a , b ,", "", 5}, {"( a , b , )", "", 5}, {"( a , -> )", "", 3}, {"( a , = )", "", 3},
	{"( a b", "", 3}, {"( a ->", "", 3}, {"( a -> )", "", 3}, {"( a -> , b )", "", 3}, {"( a -> -> b )", "", 3}, {"( a -> b", "", 4}, {"( a -> b ]", "", 4}, {"( a -> b => c )", "", 4}, {"( a :: b )", "", 2},
	{"[ a", "", 2}, {"[ a )", "", 2}, {"[ a , b ]", "", 2}, {"[ a ,", "", 2}, {"[ a => b ]", "", 2}, {"[ a ->", "", 3}, {"[ a -> ]", "", 3}, {"[ a b", "", 3}, {"[ a b , c ]", "", 3}, {"[ a -> b", "", 4}, {"[ a -> b , c ]", "", 4}, {"[ a | b ]", "", 2},
	{"( ( a", "", 3}, {"( ( a )", "", 4}, {"( ( a ) ]", "", 4}, {"[ ( a ]", "", 3}, {"[ ( a ) )", "", 4}, {"( [ a )", "", 3}, {"( [ a ] ]", "", 4}, {"( ( ) ]", "", 3}, {"( [ ]", "", 3}, {"( a ( b c ) d , [", "", 9},
}

func TestAtom(t *testing.T) { checkTable(t, atom, atoms) }

// TestAtomElsewhere has that each form begins with an atom: what cannot begin one cannot begin the others.
func TestAtomElsewhere(t *testing.T) {
	for _, x := range atoms {
		if x.want != "" {
			continue
		}
		for _, f := range forms {
			checkTable(t, f, []example{x})
		}
	}
}

// TestAtomKinds has each kind of token, with texts of all kinds.
func TestAtomKinds(t *testing.T) {
	for _, kind := range kinds() {
		for _, text := range texts {
			if isMark(api.Token{Kind: kind}) {
				continue
			}
			x := api.Token{Kind: kind, Text: text, Line: 3, Col: -4}
			s := api.State{Toks: []api.Token{x}}
			switch {
			case isName(x):
				for _, f := range forms {
					check(t, f, s, 1, leaf(x), moved(s, 1), api.OK)
				}
			case kind == api.Punct && text == "}":
				for _, f := range forms {
					check(t, f, s, 1, api.Node{}, s, api.ErrClose)
				}
			case kind == api.Punct && (text == "(" || text == "["):
				for _, f := range forms {
					check(t, f, s, 2, api.Node{}, moved(s, 1), api.ErrSyntax)
				}
			default:
				for _, f := range forms {
					check(t, f, s, 1, api.Node{}, s, api.ErrSyntax)
				}
			}
		}
	}
}

func TestRow(t *testing.T) {
	checkTable(t, row, []example{
		{"a", "a", 1}, {"A", "A", 1}, {"M.A", "M.A", 1}, {"( )", "H⟨( )⟩", 2}, {"( a )", "P⟨( a )⟩", 3}, {"[ a ]", "L⟨[ a ]⟩", 3}, {"( a , b )", "T⟨( a , b )⟩", 5},
		{"a b", "A⟨a b⟩", 2}, {"A b", "A⟨A b⟩", 2}, {"a A", "A⟨a A⟩", 2}, {"a M.A", "A⟨a M.A⟩", 2}, {"M.A M.A", "A⟨M.A M.A⟩", 2}, {"a ( )", "A⟨a H⟨( )⟩⟩", 3}, {"( ) a", "A⟨H⟨( )⟩ a⟩", 3}, {"a [ ]", "A⟨a H⟨[ ]⟩⟩", 3}, {"[ ] a", "A⟨H⟨[ ]⟩ a⟩", 3}, {"a ( b )", "A⟨a P⟨( b )⟩⟩", 4}, {"( a ) b", "A⟨P⟨( a )⟩ b⟩", 4}, {"[ a ] [ b ]", "A⟨L⟨[ a ]⟩ L⟨[ b ]⟩⟩", 6},
		{"a b c", "A⟨a b c⟩", 3}, {"a b c D e F", "A⟨a b c D e F⟩", 6}, {"( a b ) c d", "A⟨P⟨( A⟨a b⟩ )⟩ c d⟩", 6}, {"a ( b c ) d", "A⟨a P⟨( A⟨b c⟩ )⟩ d⟩", 6}, {"( -> ) [ ] ( ) x", "A⟨H⟨( -> )⟩ H⟨[ ]⟩ H⟨( )⟩ x⟩", 8}, {"( , , ) a b c", "A⟨H⟨( , , )⟩ a b c⟩", 7},
		{"a -> b", "a", 1}, {"a b -> c", "A⟨a b⟩", 2}, {"a => b", "a", 1}, {"a b => c", "A⟨a b⟩", 2}, {"a ->", "a", 1}, {"a b =>", "A⟨a b⟩", 2},
		{"a )", "a", 1}, {"a ]", "a", 1}, {"a ,", "a", 1}, {"a b )", "A⟨a b⟩", 2}, {"a ; b", "a", 1}, {"a { b", "a", 1}, {"a ` b `", "a", 1}, {"a = b", "a", 1}, {"a :: b", "a", 1}, {"a | b", "a", 1}, {"a where b", "a", 1}, {"a _ b", "a", 1}, {"a M.b c", "a", 1}, {"a 1 b", "a", 1}, {"a '+ b", "a", 1}, {"a '( b", "a", 1},
		{"a (", "", 2}, {"a ( b", "", 3}, {"a ( , b )", "", 3}, {"a [", "", 2}, {"a [ b , c ]", "", 3}, {"a b ( c -> )", "", 5}, {"( a ) (", "", 4}, {"a ( ) ( ]", "", 4}, {"-> a", "", 0}, {"=> a", "", 0}, {"= a", "", 0},
	})
}

// TestRowKinds has each kind of token behind one atom and behind two.
func TestRowKinds(t *testing.T) {
	for _, kind := range kinds() {
		for _, text := range texts {
			x := api.Token{Kind: kind, Text: text, Line: 3, Col: -4}
			if isMark(x) || kind == api.Punct && (text == "(" || text == "[") {
				continue
			}
			for n := 1; n <= 2; n++ {
				l := append(toks("a b")[:n], x)
				s := api.State{Toks: l}
				at := n
				if isName(x) {
					at++
				}
				var kids []api.Node
				for _, y := range l[:at] {
					kids = append(kids, leaf(y))
				}
				want := kids[0]
				if at > 1 {
					want = api.Node{Kind: api.TApply, Kids: kids}
				}
				check(t, row, s, 1, want, moved(s, at), api.OK)
				check(t, atom, s, 1, leaf(l[0]), moved(s, 1), api.OK)
			}
		}
	}
}

func TestType(t *testing.T) {
	l := []example{
		{"a", "a", 1}, {"a b", "A⟨a b⟩", 2}, {"( a )", "P⟨( a )⟩", 3},
		{"a -> b", "R⟨a -> b⟩", 3}, {"a b -> c", "R⟨A⟨a b⟩ -> c⟩", 4}, {"a -> b c", "R⟨a -> A⟨b c⟩⟩", 4}, {"( a ) -> [ b ]", "R⟨P⟨( a )⟩ -> L⟨[ b ]⟩⟩", 7}, {"( ) -> ( , )", "R⟨H⟨( )⟩ -> H⟨( , )⟩⟩", 6}, {"( -> ) -> ( -> )", "R⟨H⟨( -> )⟩ -> H⟨( -> )⟩⟩", 7}, {"M.A -> M.A", "R⟨M.A -> M.A⟩", 3},
		{"a -> b -> c", "R⟨a -> b -> c⟩", 5}, {"a -> b -> c -> D", "R⟨a -> b -> c -> D⟩", 7}, {"( a -> b ) -> c", "R⟨P⟨( R⟨a -> b⟩ )⟩ -> c⟩", 7}, {"a -> ( b -> c )", "R⟨a -> P⟨( R⟨b -> c⟩ )⟩⟩", 7}, {"a b -> c d -> e f", "R⟨A⟨a b⟩ -> A⟨c d⟩ -> A⟨e f⟩⟩", 8},
		{"( , ) -> a = b", "R⟨H⟨( , )⟩ -> a⟩", 5}, {"a -> b )", "R⟨a -> b⟩", 3}, {"a -> b ;", "R⟨a -> b⟩", 3}, {"a -> b , c", "R⟨a -> b⟩", 3}, {"a -> b => c", "R⟨a -> b⟩", 3}, {"a -> b '-> c", "R⟨a -> b⟩", 3}, {"a '-> b", "a", 1}, {"a = b", "a", 1}, {"a -> b 1", "R⟨a -> b⟩", 3}, {"a -> b where", "R⟨a -> b⟩", 3},
		{"a ->", "", 2}, {"a -> )", "", 2}, {"a -> =", "", 2}, {"a -> -> b", "", 2}, {"a -> => b", "", 2}, {"a b ->", "", 3}, {"a -> b ->", "", 4}, {"a -> b -> ]", "", 4}, {"a -> b -> ->", "", 4}, {"a -> ( b", "", 4}, {"a -> b (", "", 4}, {"a -> 1", "", 2}, {"a -> M.b", "", 2}, {"a -> [ b , c ]", "", 4}, {"->", "", 0}, {"-> a", "", 0},
	}
	checkTable(t, typ, l)
	checkTable(t, full, slices.DeleteFunc(l, func(x example) bool { return strings.Contains(x.s, "=>") }))
	checkTable(t, typ, []example{{"a => b", "a", 1}, {"a =>", "a", 1}, {"a b => c", "A⟨a b⟩", 2}, {"( a ) => b", "P⟨( a )⟩", 3}})
}

func TestFull(t *testing.T) {
	checkTable(t, full, []example{
		{"a => b", "Q⟨a => b⟩", 3}, {"A => b", "Q⟨A => b⟩", 3}, {"M.A => M.A", "Q⟨M.A => M.A⟩", 3}, {"A a => a", "Q⟨A⟨A a⟩ => a⟩", 4}, {"A a => a b", "Q⟨A⟨A a⟩ => A⟨a b⟩⟩", 5}, {"A a b => c -> d", "Q⟨A⟨A a b⟩ => R⟨c -> d⟩⟩", 7}, {"A a => a -> b -> c", "Q⟨A⟨A a⟩ => R⟨a -> b -> c⟩⟩", 8},
		{"( A a ) => a", "Q⟨P⟨( A⟨A a⟩ )⟩ => a⟩", 6}, {"( ) => a", "Q⟨H⟨( )⟩ => a⟩", 4}, {"( A a , B b ) => a -> b", "Q⟨T⟨( A⟨A a⟩ , A⟨B b⟩ )⟩ => R⟨a -> b⟩⟩", 11}, {"[ a ] => b", "Q⟨L⟨[ a ]⟩ => b⟩", 5}, {"( -> ) => ( -> )", "Q⟨H⟨( -> )⟩ => H⟨( -> )⟩⟩", 7}, {"A ( m a ) => m ( a -> b )", "Q⟨A⟨A P⟨( A⟨m a⟩ )⟩⟩ => A⟨m P⟨( R⟨a -> b⟩ )⟩⟩⟩", 12}, {"( a -> b ) => c", "Q⟨P⟨( R⟨a -> b⟩ )⟩ => c⟩", 7},
		{"a", "a", 1}, {"a b", "A⟨a b⟩", 2}, {"( a )", "P⟨( a )⟩", 3}, {"a -> b", "R⟨a -> b⟩", 3}, {"a b -> c", "R⟨A⟨a b⟩ -> c⟩", 4}, {"a = b => c", "a", 1}, {"a '=> b", "a", 1}, {"a '-> b", "a", 1},
		{"a -> b => c", "R⟨a -> b⟩", 3}, {"a b -> c => d", "R⟨A⟨a b⟩ -> c⟩", 4}, {"a -> b =>", "R⟨a -> b⟩", 3}, {"a => b => c", "Q⟨a => b⟩", 3}, {"a => b -> c => d", "Q⟨a => R⟨b -> c⟩⟩", 5}, {"a => b =>", "Q⟨a => b⟩", 3}, {"a => b )", "Q⟨a => b⟩", 3}, {"a => b ;", "Q⟨a => b⟩", 3}, {"a => b -> c ,", "Q⟨a => R⟨b -> c⟩⟩", 5}, {"a => b '-> c", "Q⟨a => b⟩", 3},
		{"a =>", "", 2}, {"a b =>", "", 3}, {"( a ) =>", "", 4}, {"a => =", "", 2}, {"a => => b", "", 2}, {"a => -> b", "", 2}, {"a => b ->", "", 4}, {"a => b -> => c", "", 4}, {"a => b -> -> c", "", 4}, {"a => (", "", 3}, {"a => b (", "", 4}, {"a => ( b => c )", "", 4}, {"( a => b ) => c", "", 2}, {"a ( b => c )", "", 3}, {"[ a => b ]", "", 2}, {"=>", "", 0}, {"=> a", "", 0}, {"a -> => b", "", 2}, {"a => 1", "", 2},
	})
}

// TestOtherKinds has the texts that a type needs, in tokens of other kinds.
func TestOtherKinds(t *testing.T) {
	for _, x := range []struct {
		f     form
		s     string
		where int
	}{
		{atom, "( )", 0}, {atom, "( )", 1}, {atom, "( , )", 1}, {atom, "( , , )", 2}, {atom, "( , )", 2}, {atom, "( -> )", 1}, {atom, "( -> )", 2}, {atom, "[ ]", 0}, {atom, "[ ]", 1},
		{atom, "( a )", 0}, {atom, "( a )", 2}, {atom, "( a , b )", 2}, {atom, "( a , b )", 4}, {atom, "[ a ]", 0}, {atom, "[ a ]", 2}, {typ, "a -> b", 1}, {typ, "( a -> b )", 2}, {full, "a => b", 1}, {full, "a -> b", 1}, {full, "a => b -> c", 3}, {row, "a ( )", 1}, {row, "a [ ]", 1},
	} {
		good := state(x.s)
		_, after, e := x.f.call(good, 9)
		if e != api.OK || after.At != len(good.Toks) {
			t.Fatalf("%s of %s is the error %d at %d", x.f.name, x.s, e, after.At)
		}
		for _, kind := range kinds() {
			s := state(x.s)
			if kind == s.Toks[x.where].Kind || isMark(api.Token{Kind: kind}) {
				continue
			}
			s.Toks[x.where].Kind = kind
			n, after, e := x.f.call(s, 9)
			want, stands, wanted := wanted(x.f, s, 9)
			if !same(n, want) || !equal(after, stands) || e != wanted {
				t.Fatalf("%s(%s, 9) = %s, %s, %d; not %s, %s, %d", x.f.name, show(s), brief(n), show(after), e, brief(want), show(stands), wanted)
			}
			if !isName(s.Toks[x.where]) && e == api.OK && after.At > x.where {
				t.Fatalf("%s takes %q of the kind %d", x.f.name, s.Toks[x.where].Text, kind)
			}
		}
	}
}
