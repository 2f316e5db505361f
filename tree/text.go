package tree

import (
	"strconv"
	"strings"

	"offside/api"
)

// digits are those of a byte that is written by its number.
const digits = "0123456789abcdef"

// valid reports whether a node is valid, whatever its kids are.
func valid(n api.Node) bool {
	if n.Kind == api.Leaf {
		return 0 <= n.Form && n.Form < api.Kinds && len(n.Kids) == 0
	}
	return 1 <= n.Kind && n.Kind < api.Nodes && n.Text == "" && (n.Form == 0 || n.Form == 1)
}

// plain reports whether a byte of a leaf's text is written as it is.
func plain(c byte) bool {
	return 32 <= c && c <= 126 && c != '"' && c != '\\'
}

func writeLeaf(out *strings.Builder, n api.Node) {
	out.WriteString(strconv.Itoa(n.Form))
	out.WriteByte('"')
	for i := range len(n.Text) {
		c := n.Text[i]
		if plain(c) {
			out.WriteByte(c)
			continue
		}
		out.WriteByte('\\')
		out.WriteByte(digits[c>>4])
		out.WriteByte(digits[c&15])
	}
	out.WriteByte('"')
}

// writeHead writes what stands before the kids of a node.
func writeHead(out *strings.Builder, n api.Node) {
	out.WriteByte('(')
	out.WriteString(strconv.Itoa(n.Kind))
	if n.Form == 1 {
		out.WriteByte('!')
	}
}

// reader takes one part after another off the beginning of a text.
type reader struct {
	rest string
}

// take takes c off, if the rest begins with it.
func (r *reader) take(c byte) bool {
	if r.rest == "" || r.rest[0] != c {
		return false
	}
	r.rest = r.rest[1:]
	return true
}

// number takes a number below the limit off.
func (r *reader) number(limit int) (int, bool) {
	value, size := 0, 0
	for size < len(r.rest) && '0' <= r.rest[size] && r.rest[size] <= '9' {
		value = 10*value + int(r.rest[size]-'0')
		size++
		if value >= limit || size > 1 && r.rest[0] == '0' {
			return 0, false
		}
	}
	r.rest = r.rest[size:]
	return value, size > 0
}

// leaf takes a leaf off.
func (r *reader) leaf() (api.Node, api.Errno) {
	form, ok := r.number(api.Kinds)
	if !ok || !r.take('"') {
		return api.Node{}, api.ErrTree
	}
	var text strings.Builder
	for !r.take('"') {
		c, ok := r.character()
		if !ok {
			return api.Node{}, api.ErrTree
		}
		text.WriteByte(c)
	}
	return api.Node{Kind: api.Leaf, Form: form, Text: text.String()}, api.OK
}

// character takes a byte of a leaf's text off, which must be written in the one way that Show writes it.
func (r *reader) character() (byte, bool) {
	if r.take('\\') {
		if len(r.rest) < 2 {
			return 0, false
		}
		high, low := strings.IndexByte(digits, r.rest[0]), strings.IndexByte(digits, r.rest[1])
		if high < 0 || low < 0 || plain(byte(high<<4|low)) {
			return 0, false
		}
		r.rest = r.rest[2:]
		return byte(high<<4 | low), true
	}
	if r.rest == "" || !plain(r.rest[0]) {
		return 0, false
	}
	c := r.rest[0]
	r.rest = r.rest[1:]
	return c, true
}

// head takes off what stands between the ( of a node and its kids.
func (r *reader) head() (api.Node, api.Errno) {
	kind, ok := r.number(api.Nodes)
	if !ok || kind == api.NoNode || kind == api.Leaf {
		return api.Node{}, api.ErrTree
	}
	n := api.Node{Kind: kind}
	if r.take('!') {
		n.Form = 1
	}
	return n, api.OK
}
