package tree

import (
	"fmt"
	"math/rand"
	"regexp"
	"strconv"
	"strings"

	"offside/api"
)

// The second readings go through trees by lists of nodes, and through texts by patterns.

// levels returns the nodes of a tree by how deep they are.
func levels(n api.Node) [][]api.Node {
	var out [][]api.Node
	for level := []api.Node{n}; len(level) > 0; {
		out = append(out, level)
		var below []api.Node
		for _, x := range level {
			below = append(below, x.Kids...)
		}
		level = below
	}
	return out
}

// inOrder returns the nodes of a tree, each before its kids.
func inOrder(n api.Node) []api.Node {
	var out []api.Node
	for next := []api.Node{n}; len(next) > 0; {
		x := next[len(next)-1]
		next = next[:len(next)-1]
		out = append(out, x)
		for i := len(x.Kids) - 1; i >= 0; i-- {
			next = append(next, x.Kids[i])
		}
	}
	return out
}

func wantedSame(a, b api.Node) bool {
	x, y := inOrder(a), inOrder(b)
	if len(x) != len(y) {
		return false
	}
	for i := range x {
		if x[i].Kind != y[i].Kind || x[i].Form != y[i].Form || x[i].Text != y[i].Text || len(x[i].Kids) != len(y[i].Kids) {
			return false
		}
	}
	return true
}

func wantedSize(n api.Node) int { return len(inOrder(n)) }

func wantedDepth(n api.Node) int { return len(levels(n)) }

// wantedLeaves leaves out what is below a Leaf by taking its kids off first.
func wantedLeaves(n api.Node) []api.Token {
	var cut func(n api.Node) api.Node
	cut = func(n api.Node) api.Node {
		kids := n.Kids
		n.Kids = nil
		if n.Kind != 1 {
			for _, k := range kids {
				n.Kids = append(n.Kids, cut(k))
			}
		}
		return n
	}
	var out []api.Token
	for _, x := range inOrder(cut(n)) {
		if x.Kind == 1 {
			out = append(out, api.Token{Kind: x.Form, Text: x.Text, Line: x.Line, Col: x.Col})
		}
	}
	return out
}

func wantedValid(n api.Node) bool {
	for _, x := range inOrder(n) {
		isLeaf := x.Kind == 1 && x.Form >= 0 && x.Form <= 21 && len(x.Kids) == 0
		isOther := x.Kind >= 2 && x.Kind <= 53 && x.Text == "" && x.Form >= 0 && x.Form <= 1
		if !isLeaf && !isOther {
			return false
		}
	}
	return true
}

func wantedText(n api.Node) string {
	if n.Kind == 1 {
		var text []string
		for _, c := range []byte(n.Text) {
			if strings.ContainsRune(asTheyAre, rune(c)) {
				text = append(text, string(rune(c)))
			} else {
				text = append(text, fmt.Sprintf("\\%02x", c))
			}
		}
		return fmt.Sprintf("%d\"%s\"", n.Form, strings.Join(text, ""))
	}
	parts := []string{fmt.Sprintf("(%d%s", n.Kind, []string{"", "!"}[n.Form])}
	for _, k := range n.Kids {
		parts = append(parts, wantedText(k))
	}
	return strings.Join(parts, " ") + ")"
}

// asTheyAre are the bytes of a leaf's text that are written as they are.
const asTheyAre = " !#$%&'()*+,-./0123456789:;<=>?@ABCDEFGHIJKLMNOPQRSTUVWXYZ[]^_`abcdefghijklmnopqrstuvwxyz{|}~"

func wantedShow(n api.Node) (string, api.Errno) {
	if !wantedValid(n) {
		return "", 100
	}
	return wantedText(n), 0
}

var (
	leafForm = regexp.MustCompile(`^(1[0-9]|2[01]|[0-9])"((?:[ !#-\[\]-~]|\\(?:[01][0-9a-f]|22|5c|7f|[89a-f][0-9a-f]))*)"`)
	headForm = regexp.MustCompile(`^\(([1-4][0-9]|5[0-3]|[2-9])(!?)`)
	byNumber = regexp.MustCompile(`\\..`)
)

func readLeaf(form, text string) api.Node {
	n, _ := strconv.Atoi(form)
	text = byNumber.ReplaceAllStringFunc(text, func(s string) string {
		c, _ := strconv.ParseUint(s[1:], 16, 8)
		return string([]byte{byte(c)})
	})
	return api.Node{Kind: 1, Form: n, Text: text}
}

// wantedRead keeps the nodes that are open in a list.
func wantedRead(s string) (api.Node, api.Errno) {
	if len(s) > 1<<24 {
		return api.Node{}, 3
	}
	whole := api.Node{} // its only kid is the tree
	open := []*api.Node{&whole}
	for {
		inner := open[len(open)-1]
		if len(open) == 1 && len(inner.Kids) == 1 {
			break
		}
		if len(open) > 1 && strings.HasPrefix(s, ")") {
			s = s[1:]
			open = open[:len(open)-1]
			continue
		}
		if len(open) > 1 {
			if !strings.HasPrefix(s, " ") {
				return api.Node{}, 100
			}
			s = s[1:]
			if len(open) > 1000 {
				return api.Node{}, 2
			}
		}
		if m := leafForm.FindStringSubmatch(s); m != nil {
			inner.Kids = append(inner.Kids, readLeaf(m[1], m[2]))
			s = s[len(m[0]):]
		} else if m := headForm.FindStringSubmatch(s); m != nil {
			kind, _ := strconv.Atoi(m[1])
			inner.Kids = append(inner.Kids, api.Node{Kind: kind, Form: len(m[2])})
			open = append(open, &inner.Kids[len(inner.Kids)-1])
			s = s[len(m[0]):]
		} else {
			return api.Node{}, 100
		}
	}
	if s != "" {
		return api.Node{}, 100
	}
	return whole.Kids[0], 0
}

// anyTree returns a tree of about size nodes; one in odd of its nodes is of any kind, form and text.
func anyTree(r *rand.Rand, size, odd int) api.Node {
	n := api.Node{Line: r.Intn(5) - 1, Col: r.Intn(5) - 1}
	switch {
	case odd > 0 && r.Intn(odd) == 0:
		n.Kind, n.Form, n.Text = anyNumber(r, api.Nodes), anyNumber(r, api.Kinds), anyText(r)
	case size <= 1 && r.Intn(3) > 0:
		n.Kind, n.Form, n.Text = api.Leaf, r.Intn(api.Kinds), anyText(r)
		return n
	default:
		n.Kind, n.Form = 2+r.Intn(api.Nodes-2), r.Intn(2)
	}
	for size > 1 {
		part := 1 + r.Intn(size-1)
		if r.Intn(4) == 0 {
			part = size - 1
		}
		n.Kids = append(n.Kids, anyTree(r, part, odd))
		size -= part
	}
	return n
}

func anyNumber(r *rand.Rand, limit int) int {
	switch r.Intn(4) {
	case 0:
		return []int{least, -1, 0, 1, 2, limit - 1, limit, limit + 1, most}[r.Intn(9)]
	case 1:
		return r.Intn(3)
	}
	return r.Intn(limit)
}

func anyText(r *rand.Rand) string {
	if r.Intn(3) == 0 {
		return ""
	}
	text := make([]byte, r.Intn(6))
	for i := range text {
		text[i] = byte(r.Intn(256))
		if r.Intn(3) > 0 {
			text[i] = "\"\\ ()!ax019\n\x7f\xc3"[r.Intn(14)]
		}
	}
	return string(text)
}
