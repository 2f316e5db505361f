package word

import (
	"math"
	"regexp"
	"slices"
	"strings"
	"testing"
	"unicode/utf8"

	"offside/api"
)

var reservedWords = strings.Fields("_ case class data default deriving do else foreign if import in infix infixl infixr instance let module newtype of then type where")

var reservedOperators = strings.Fields(".. : :: = \\ | <- -> @ ~ =>")

// atoms are what texts are put together of: runes of every class and of one to four bytes, reserved words and operators, and bytes that begin no encoding.
var atoms = []string{
	"x", "λ", "_", "M", "É", "1", "'", ".", ":", "+", "→", "=", "-", ">", "..", "of", "where", "(", "`", " ", "\n", "\"", "\u00ad", "中", "😀", "\ufffd", "\xff", "\xe2\x86", "\x80",
}

// fewAtoms are those that longer words are made of.
var fewAtoms = []string{"x", "M", ".", ":", "+", "do", "'"}

// words are some of each kind, and two of them often make another one.
var words = slices.Concat(reservedWords, reservedOperators, []string{
	"x", "x'", "x1", "λ", "_a", "a_", "__", "fix", "fixl", "stance", "s", "here", "wher", "e", "ca", "se", "dO", "λÉ'9ω",
	"M", "É", "M'", "M1", "M_", "Where", "N", "Ωα",
	"M.x", "M.λ", "É.é'", "M.wher", "M.w", "M.d", "M.N.x", "M.N._a", "M'.x", "M.N.O.p",
	"M.N", "M.N.O", "É.Ω", "M'.N1",
	"+", ".", "-", "--", "-->", "<", ">", "...", "....", ".:", ".+", "→", "→.", "..=", "==", "||", "!", "×÷¬",
	":+", ":.", ":::", "::=", ":→",
	"M.+", "M..", "M....", "M.-", "M.<", "M.N.+", "M.N..", "É.→", "M.N.+.+", "M.--", "M.|:",
	"M.:+", "M.:.", "M.:::", "M.N.:→",
	"(", ")", ",", ";", "[", "]", "`", "{", "}",
})

// notWords are texts of which none is exactly one word.
var notWords = []string{
	"", " ", "\n", "1", "1x", "12", "'", "'x", "'a'", "\"", "\"a\"", "x y", "x ", " x", "x\n", "x.y", "x.M", "x+", "+x", "+(", "((", "()", "(x", "M.", "M.N.", "M.1", "M.'", "M. x", "M .x", "M.(", "M.x.y", "M.x.", "M.x+", "M.+x", "M.+ ",
	"M.where", "M.N.where", "M._", "M...", "M.N...", "M.:", "M.::", "M.=", "M.\\", "M.|", "M.<-", "M.->", "M.@", "M.~", "M.=>", "M..x", "where.x", "_.x", ".x", ".M",
	"\xff", "\x80", "\xc3", "\xe2\x86", "x\xff", "x\xc3", "M\xff", "M.\xff", "M.x\xff", "+\xe2\x86", "\xffx", "M.\xc3", "\ufffd", "x\ufffd", "中", "x中", "😀", "\x00", "x\x00", "\u00ad", "+\u00ad", "\u00a0", "x\u00a0",
}

// The chapter's words as patterns, with the classes of layer 1 written out.
const (
	small  = `[a-z_\x{DF}-\x{F6}\x{F8}-\x{FF}\x{3B1}-\x{3C9}]`
	large  = `[A-Z\x{C0}-\x{D6}\x{D8}-\x{DE}\x{391}-\x{3A1}\x{3A3}-\x{3A9}]`
	symbol = `[!#$%&*+./:<=>?@\\^|~\-\x{A1}-\x{AC}\x{AE}-\x{BF}\x{D7}\x{F7}\x{2190}-\x{22FF}]`
	inside = `(?:` + small + `|` + large + `|[0-9'])`
	upper  = large + inside + `*`
)

var (
	oneWord   = regexp.MustCompile(`\A((?:` + upper + `\.)*)(?:(` + small + inside + `*)|(` + upper + `)|(` + symbol + `+))\z`)
	oneMark   = regexp.MustCompile("\\A[(),;\\[\\]`{}]\\z")
	goesOnAs  = regexp.MustCompile(`\A` + inside)
	symbolsOn = regexp.MustCompile(`\A` + symbol)
)

// A reading is what a text is if all of it is one word.
type reading struct {
	kind            int
	qualifier, name string
}

// read tells what s is if all of it is one word: the pattern's parts, of which a reserved one takes no qualifier.
func read(s string) reading {
	if oneMark.MatchString(s) {
		return reading{kind: api.Punct, name: s}
	}
	m := oneWord.FindStringSubmatch(s)
	if m == nil {
		return reading{}
	}
	r := reading{qualifier: strings.TrimSuffix(m[1], "."), name: s[len(m[1]):]}
	qualified := 0
	if m[1] != "" {
		qualified = 2 // api lists the kinds with a qualifier two behind those without
	}
	switch {
	case slices.Contains(reservedWords, r.name):
		r.kind = api.Word
	case slices.Contains(reservedOperators, r.name):
		r.kind = api.Mark
	case m[2] != "":
		r.kind = api.Var + qualified
	case m[3] != "":
		r.kind = api.Con + qualified
	case r.name[0] == ':':
		r.kind = api.ConOp + qualified
	default:
		r.kind = api.Op + qualified
	}
	if qualified > 0 && (r.kind == api.Word || r.kind == api.Mark) {
		return reading{}
	}
	return r
}

// goesOn tells whether the last part of the word goes on with the rune that begins rest, so that it is not all of that part.
func goesOn(kind int, rest string) bool {
	switch kind {
	case api.Punct:
		return false
	case api.Op, api.ConOp, api.QOp, api.QConOp, api.Mark:
		return symbolsOn.MatchString(rest)
	}
	return goesOnAs.MatchString(rest)
}

// wantedScan is the longest word from the byte at on whose last part is whole.
func wantedScan(s string, at int) (kind, end int) {
	for e := len(s); e > at; e-- {
		if r := read(s[at:e]); r.kind != api.NoKind && !goesOn(r.kind, s[e:]) {
			return r.kind, e
		}
	}
	return api.NoKind, 0
}

// eachText calls f with the words, the texts that are none, and the texts of up to three atoms or five of the few.
func eachText(f func(s string)) {
	for _, s := range slices.Concat(words, notWords) {
		f(s)
	}
	eachJoined(atoms, 3, f)
	eachJoined(fewAtoms, 5, f)
}

func eachJoined(parts []string, most int, f func(s string)) {
	level := []string{""}
	for range most {
		var next []string
		for _, s := range level {
			for _, p := range parts {
				f(s + p)
				next = append(next, s+p)
			}
		}
		level = next
	}
}

// eachPair calls f with every two of the words.
func eachPair(f func(a, b string)) {
	for _, a := range words {
		for _, b := range words {
			f(a, b)
		}
	}
}

func TestScanKnown(t *testing.T) {
	for _, x := range []struct {
		s             string
		at, kind, end int
	}{
		{"x", 0, api.Var, 1},
		{"x y", 0, api.Var, 1},
		{"x y", 1, api.NoKind, 0},
		{"x y", 2, api.Var, 3},
		{"_", 0, api.Word, 1},
		{"__", 0, api.Var, 2},
		{"_1", 0, api.Var, 2},
		{"_'", 0, api.Var, 2},
		{"a'b''", 0, api.Var, 5},
		{"aB9_'.", 0, api.Var, 5},
		{"x9'", 1, api.NoKind, 0},
		{"x9'", 2, api.NoKind, 0},
		{"'x", 0, api.NoKind, 0},
		{"'x", 1, api.Var, 2},
		{"1x", 0, api.NoKind, 0},
		{"1x", 1, api.Var, 2},
		{"\"x\"", 0, api.NoKind, 0},
		{"where", 0, api.Word, 5},
		{"where", 1, api.Var, 5},
		{"where'", 0, api.Var, 6},
		{"where.x", 0, api.Word, 5},
		{"Where", 0, api.Con, 5},
		{"infixl", 0, api.Word, 6},
		{"infixlr", 0, api.Var, 7},
		{"do(", 0, api.Word, 2},
		{"forall", 0, api.Var, 6},
		{"as qualified hiding", 0, api.Var, 2},
		{"M", 0, api.Con, 1},
		{"M'9x_N ", 0, api.Con, 6},
		{"M.x", 0, api.QVar, 3},
		{"M.x", 1, api.Op, 2},
		{"M.x", 2, api.Var, 3},
		{"M.x.y", 0, api.QVar, 3},
		{"M.x.N", 0, api.QVar, 3},
		{"M'.x'", 0, api.QVar, 5},
		{"M.N", 0, api.QCon, 3},
		{"M.N.", 0, api.QCon, 3},
		{"M.N.O", 0, api.QCon, 5},
		{"M.N.O", 2, api.QCon, 5},
		{"M.N.O.x", 0, api.QVar, 7},
		{"M.N.O.+", 0, api.QOp, 7},
		{"M.N.O.:+", 0, api.QConOp, 8},
		{"M.N.where", 0, api.QCon, 3},
		{"M.N.where", 4, api.Word, 9},
		{"M.wheres", 0, api.QVar, 8},
		{"M._", 0, api.Con, 1},
		{"M._a", 0, api.QVar, 4},
		{"M.1", 0, api.Con, 1},
		{"M.'", 0, api.Con, 1},
		{"M.'a'", 0, api.Con, 1},
		{"M.\"", 0, api.Con, 1},
		{"M.(", 0, api.Con, 1},
		{"M. x", 0, api.Con, 1},
		{"M .x", 0, api.Con, 1},
		{"M.", 0, api.Con, 1},
		{"M..", 0, api.QOp, 3},
		{"M...", 0, api.Con, 1},
		{"M....", 0, api.QOp, 5},
		{"M...", 1, api.Op, 4},
		{"M..x", 0, api.QOp, 3},
		{"M..N", 0, api.QOp, 3},
		{"M.N..", 0, api.QOp, 5},
		{"M.N...", 0, api.QCon, 3},
		{"M.N....", 0, api.QOp, 7},
		{"M...+", 0, api.QOp, 5},
		{"M.+.+", 0, api.QOp, 5},
		{"M.+.x", 0, api.QOp, 4},
		{"M.:", 0, api.Con, 1},
		{"M.::", 0, api.Con, 1},
		{"M.:::", 0, api.QConOp, 5},
		{"M.:.", 0, api.QConOp, 4},
		{"M.--", 0, api.QOp, 4},
		{"M+.x", 0, api.Con, 1},
		{"x.y", 0, api.Var, 1},
		{"x..", 1, api.Mark, 3},
		{"..", 0, api.Mark, 2},
		{"...", 0, api.Op, 3},
		{"...", 1, api.Mark, 3},
		{".", 0, api.Op, 1},
		{"--", 0, api.Op, 2},
		{"-- x", 0, api.Op, 2},
		{"{-", 0, api.Punct, 1},
		{"{-", 1, api.Op, 2},
		{"::=", 0, api.ConOp, 3},
		{"==", 0, api.Op, 2},
		{"=:", 0, api.Op, 2},
		{"\\x", 0, api.Mark, 1},
		{"\\\\", 0, api.Op, 2},
		{"()", 0, api.Punct, 1},
		{"`x`", 0, api.Punct, 1},
		{"λ→Λ", 0, api.Var, 2},
		{"λ→Δ", 2, api.Op, 5},
		{"λ→Δ", 5, api.Con, 7},
		{"Δ.λ", 0, api.QVar, 5},
		{"Δ.→:", 0, api.QOp, 7},
		{"Δ.:→", 0, api.QConOp, 7},
		{"é'É9", 0, api.Var, 6},
		{"x中", 0, api.Var, 1},
		{"x中", 1, api.NoKind, 0},
		{"x\ufffdy", 0, api.Var, 1},
		{"x\xffy", 0, api.Var, 1},
		{"+\xe2\x86", 0, api.Op, 1},
		{"M.\xff", 0, api.Con, 1},
		{"\u00a0", 0, api.NoKind, 0},
		{"+\u00ad+", 0, api.Op, 1},
	} {
		if kind, end := Scan(x.s, x.at); kind != x.kind || end != x.end {
			t.Errorf("C1: Scan(%q, %d) = %d, %d, not %d, %d", x.s, x.at, kind, end, x.kind, x.end)
		}
	}
}

func TestScanReserved(t *testing.T) {
	for _, x := range []struct {
		names                []string
		kind, longer, behind int
		more                 string
	}{
		{reservedWords, api.Word, api.Var, api.QVar, "z"},
		{reservedOperators, api.Mark, api.Op, api.QOp, "!"},
	} {
		for _, name := range x.names {
			longer, behind := x.longer, x.behind
			if name[0] == ':' {
				longer, behind = api.ConOp, api.QConOp
			}
			for _, c := range []struct {
				s             string
				at, kind, end int
			}{
				{name, 0, x.kind, len(name)},
				{name + " z", 0, x.kind, len(name)},
				{name + "(", 0, x.kind, len(name)},
				{"(" + name, 1, x.kind, len(name) + 1},
				{name + x.more, 0, longer, len(name) + 1},
				{"M." + name, 0, api.Con, 1},
				{"M.N." + name, 0, api.QCon, 3},
				{"M." + name + x.more, 0, behind, len(name) + 3},
				{"M.N." + name + x.more, 0, behind, len(name) + 5},
			} {
				if kind, end := Scan(c.s, c.at); kind != c.kind || end != c.end {
					t.Errorf("C1: Scan(%q, %d) = %d, %d, not %d, %d", c.s, c.at, kind, end, c.kind, c.end)
				}
			}
		}
	}
}

func TestScanInsideRunes(t *testing.T) {
	for _, s := range []string{"é", "→", "😀", "xλ", "M.λ", "M.→", "É.é", "+→+", "Δ"} {
		for at := range len(s) {
			if utf8.RuneStart(s[at]) {
				continue
			}
			if kind, end := Scan(s, at); kind != api.NoKind || end != 0 {
				t.Errorf("C1: Scan(%q, %d) = %d, %d", s, at, kind, end)
			}
		}
	}
}

func TestScanOutside(t *testing.T) {
	for _, s := range slices.Concat(words, notWords) {
		for _, at := range []int{-1, math.MinInt, len(s), len(s) + 1, math.MaxInt} {
			if kind, end := Scan(s, at); kind != api.NoKind || end != 0 {
				t.Errorf("C1: Scan(%q, %d) = %d, %d", s, at, kind, end)
			}
		}
	}
}

func TestScanEverywhere(t *testing.T) {
	eachText(func(s string) {
		for at := range len(s) {
			wantKind, wantEnd := wantedScan(s, at)
			if kind, end := Scan(s, at); kind != wantKind || end != wantEnd {
				t.Fatalf("C1: Scan(%q, %d) = %d, %d, not %d, %d", s, at, kind, end, wantKind, wantEnd)
			}
		}
	})
}

func TestScanEveryRune(t *testing.T) {
	for c := rune(0); c <= 0x10FFFF; c++ {
		if !utf8.ValidRune(c) {
			continue
		}
		for _, s := range []string{string(c), "x" + string(c), "M." + string(c)} {
			if c > 0x3000 && c != 0xFFFD && c%101 != 0 {
				continue // all of these are of one class
			}
			wantKind, wantEnd := wantedScan(s, 0)
			if kind, end := Scan(s, 0); kind != wantKind || end != wantEnd {
				t.Fatalf("C1: Scan(%q, 0) = %d, %d, not %d, %d", s, kind, end, wantKind, wantEnd)
			}
		}
	}
}

func TestKindKnown(t *testing.T) {
	for _, x := range []struct {
		s    string
		kind int
	}{
		{"x", api.Var}, {"x'", api.Var}, {"_a", api.Var}, {"λ", api.Var}, {"infixs", api.Var},
		{"X", api.Con}, {"É'1", api.Con},
		{"M.x", api.QVar}, {"M.N.x'", api.QVar},
		{"M.N", api.QCon}, {"M.N.O", api.QCon},
		{"+", api.Op}, {".", api.Op}, {"...", api.Op}, {"--", api.Op}, {"→", api.Op},
		{":+", api.ConOp}, {":::", api.ConOp},
		{"M.+", api.QOp}, {"M..", api.QOp}, {"M....", api.QOp},
		{"M.:+", api.QConOp}, {"M.:::", api.QConOp},
		{"where", api.Word}, {"_", api.Word},
		{":", api.Mark}, {"..", api.Mark}, {"\\", api.Mark},
		{"(", api.Punct}, {"`", api.Punct}, {"}", api.Punct},
	} {
		if kind := Kind(x.s); kind != x.kind {
			t.Errorf("C2: Kind(%q) = %d, not %d", x.s, kind, x.kind)
		}
	}
	for _, s := range words {
		if Kind(s) == api.NoKind {
			t.Errorf("C2: Kind(%q) is NoKind", s)
		}
	}
	for _, s := range notWords {
		if kind := Kind(s); kind != api.NoKind {
			t.Errorf("C2: Kind(%q) = %d", s, kind)
		}
	}
}

func TestKindEverywhere(t *testing.T) {
	eachText(func(s string) {
		if got, want := Kind(s), read(s).kind; got != want {
			t.Fatalf("C2: Kind(%q) = %d, not %d", s, got, want)
		}
	})
}

func TestSplitKnown(t *testing.T) {
	for _, x := range [][3]string{
		{"x", "", "x"}, {"X'", "", "X'"}, {"+", "", "+"}, {".", "", "."}, {"...", "", "..."}, {":.", "", ":."}, {"+.+", "", "+.+"}, {"λ", "", "λ"},
		{"M.x", "M", "x"}, {"M.N", "M", "N"}, {"M.N.x'", "M.N", "x'"}, {"M.N.O", "M.N", "O"}, {"É.é", "É", "é"},
		{"M.+", "M", "+"}, {"M.N.+", "M.N", "+"}, {"M..", "M", "."}, {"M.N..", "M.N", "."}, {"M....", "M", "..."}, {"M.+.+", "M", "+.+"}, {"M.N.+.", "M.N", "+."}, {"M...+", "M", "..+"},
		{"M.:+", "M", ":+"}, {"M.:.:", "M", ":.:"}, {"M.N.:→", "M.N", ":→"},
	} {
		if qualifier, name, e := Split(x[0]); qualifier != x[1] || name != x[2] || e != api.OK {
			t.Errorf("C3: Split(%q) = %q, %q, %d, not %q, %q", x[0], qualifier, name, e, x[1], x[2])
		}
	}
}

func TestSplitNothing(t *testing.T) {
	for _, s := range slices.Concat(reservedWords, reservedOperators, notWords, []string{"(", ")", ",", ";", "[", "]", "`", "{", "}"}) {
		if qualifier, name, e := Split(s); qualifier != "" || name != "" || e != api.ErrWord {
			t.Errorf("C3: Split(%q) = %q, %q, %d", s, qualifier, name, e)
		}
	}
}

func TestSplitEverywhere(t *testing.T) {
	eachText(func(s string) {
		want, wantError := read(s), api.OK
		switch want.kind {
		case api.NoKind, api.Word, api.Mark, api.Punct:
			want, wantError = reading{}, api.ErrWord
		}
		if qualifier, name, e := Split(s); qualifier != want.qualifier || name != want.name || e != wantError {
			t.Fatalf("C3: Split(%q) = %q, %q, %d, not %q, %q, %d", s, qualifier, name, e, want.qualifier, want.name, wantError)
		}
	})
}

func TestApartKnown(t *testing.T) {
	for _, x := range []struct {
		a, b string
		want bool
	}{
		{"x", "+", true}, {"+", "x", true}, {"x", "y", false}, {"x", "M", false}, {"M", "x", false}, {"x", "_", false},
		{"x", ".", true}, {"x", "..", true}, {".", "x", true}, {".", "M", true}, {".", "M.x", true},
		{"M", ".", true}, {"M", "..", false}, {"M", "...", true}, {"M", "....", false},
		{"M", ".+", false}, {"M", ".:", true}, {"M", ".::", true}, {"M", ".:+", false}, {"M", ".->", true}, {"M", ".|", true}, {"M", ".||", false},
		{"M.N", ".", true}, {"M.N", "..", false}, {"M.N", "...", true}, {"M.N", ".=", true}, {"M.N", ".==", false},
		{"M.x", ".", true}, {"M.x", "..", true}, {"M.x", ".+", true}, {"M.+", "x", true}, {"M.+", "M.x", true}, {"M.+", "+", false},
		{"M..", ".", false}, {"M..", "..", false}, {"M.-", ">", false}, {"M.wher", "e", false}, {"M.w", "here", false}, {"M.x", "y", false},
		{"x", "M.y", false}, {"where", "M.x", false}, {"x", "M.+", false}, {"M", "N.x", false}, {"+", "M.+", true},
		{"in", "fix", false}, {"infix", "l", false}, {"wher", "e", false}, {"do", "_", false}, {"where", "(", true}, {"do", "=", true},
		{"-", "-", false}, {"-", ">", false}, {"=", "=", false}, {":", ":", false}, {":", "+", false}, {"\\", "x", true}, {"\\", "\\", false}, {"→", "→", false}, {"→", "+", false},
		{"(", "(", true}, {"(", ")", true}, {"{", "-", true}, {"-", "}", true}, {"`", "x", true}, {"x", "`", true}, {",", "..", true}, {"M", "(", true},
		{"λ", "→", true}, {"λ", "é", false}, {"É", ".→", false}, {"É", ".", true},
	} {
		if got := Apart(x.a, x.b); got != x.want {
			t.Errorf("C4: Apart(%q, %q) is %v", x.a, x.b, got)
		}
	}
}

func TestApartWrong(t *testing.T) {
	for _, a := range notWords {
		for _, b := range slices.Concat([]string{"x", "+", "(", "M", "where", "."}, notWords) {
			if Apart(a, b) || Apart(b, a) {
				t.Errorf("C4: %q is no word, but apart from %q", a, b)
			}
		}
	}
}

func TestApartEverywhere(t *testing.T) {
	apart, joined := 0, 0
	eachPair(func(a, b string) {
		kind, end := wantedScan(a+b, 0)
		want := kind == read(a).kind && end == len(a)
		if want {
			kind, end = wantedScan(a+b, end)
			want = kind == read(b).kind && end == len(a+b)
		}
		if got := Apart(a, b); got != want {
			t.Errorf("C4: Apart(%q, %q) is %v", a, b, got)
		}
		if want {
			apart++
		} else {
			joined++
		}
	})
	if apart == 0 || joined == 0 {
		t.Errorf("C4: %d pairs are apart, %d are not", apart, joined)
	}
}

func TestFoundWordsAreWords(t *testing.T) {
	eachText(func(s string) {
		for at := range len(s) {
			kind, end := Scan(s, at)
			if kind == api.NoKind {
				continue
			}
			if end <= at || end > len(s) {
				t.Fatalf("C5: Scan(%q, %d) ends at %d", s, at, end)
			}
			if got := Kind(s[at:end]); got != kind {
				t.Fatalf("C5: Scan(%q, %d) = %d, %d, but Kind is %d", s, at, kind, end, got)
			}
		}
	})
}

func TestSpacedWordsRemain(t *testing.T) {
	eachPair(func(a, b string) {
		s := a + " " + b
		if kind, end := Scan(s, 0); kind != Kind(a) || end != len(a) {
			t.Errorf("C5: Scan(%q, 0) = %d, %d", s, kind, end)
		}
		if kind, end := Scan(s, len(a)+1); kind != Kind(b) || end != len(s) {
			t.Errorf("C5: Scan(%q, %d) = %d, %d", s, len(a)+1, kind, end)
		}
	})
}

func TestPartsAreWords(t *testing.T) {
	eachText(func(s string) {
		qualifier, name, e := Split(s)
		if e != api.OK {
			return
		}
		want := Kind(s)
		if want == api.QVar || want == api.QCon || want == api.QOp || want == api.QConOp {
			if kind := Kind(qualifier); kind != api.Con && kind != api.QCon {
				t.Fatalf("C5: Split(%q) has the qualifier %q", s, qualifier)
			}
			if qualifier+"."+name != s {
				t.Fatalf("C5: Split(%q) = %q, %q", s, qualifier, name)
			}
			want -= api.QVar - api.Var
		}
		if kind := Kind(name); kind != want {
			t.Fatalf("C5: Split(%q) has the name %q of the kind %d, not %d", s, name, kind, want)
		}
	})
}

// TestLongWords holds the calls to times that grow as their texts do.
func TestLongWords(t *testing.T) {
	const n = 1 << 20
	chain := strings.Repeat("M.", n)
	for _, x := range []struct {
		s    string
		kind int
	}{
		{strings.Repeat("x'", n), api.Var},
		{strings.Repeat("Éλ", n), api.Con},
		{strings.Repeat("→.", n), api.Op},
		{chain + "x", api.QVar},
		{chain + "N", api.QCon},
		{chain + "+", api.QOp},
		{chain + ":+", api.QConOp},
	} {
		if kind, end := Scan(x.s, 0); kind != x.kind || end != len(x.s) {
			t.Errorf("C1: Scan = %d, %d, not %d, %d", kind, end, x.kind, len(x.s))
		}
		if kind := Kind(x.s); kind != x.kind {
			t.Errorf("C2: Kind = %d, not %d", kind, x.kind)
		}
		if qualifier, name, e := Split(x.s); e != api.OK || strings.HasPrefix(x.s, "M.") != (len(qualifier) == len(chain)-1) || len(name) == 0 {
			t.Errorf("C3: Split has %d and %d bytes, %d", len(qualifier), len(name), e)
		}
		if !Apart(x.s, "(") || !Apart("(", x.s) {
			t.Errorf("C4: a word of the kind %d is not apart from a bracket", x.kind)
		}
	}
	if kind, end := Scan(chain+"where", 0); kind != api.QCon || end != len(chain)-1 {
		t.Errorf("C1: Scan = %d, %d", kind, end)
	}
}
