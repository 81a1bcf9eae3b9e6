// Package reading is what the layers that read trees have in common.
package reading

import (
	"envoy/api"
	"envoy/cursor"
	"envoy/lexer"
	"envoy/nodes"
)

// Whole reads all the words of s by at: the tree, or a place and an error.
func Whole(s string, at func(*cursor.Cursor) (api.Node, bool)) (api.Node, int, api.Errno) {
	words, pos, e := lexer.Lex(s)
	if e != api.OK {
		return api.Node{}, pos, e
	}
	c := cursor.New(words)
	n, _ := at(c)
	pos, e = c.Done()
	if e != api.OK {
		return api.Node{}, pos, e
	}
	if nodes.Depth(n) > api.MaxDepth {
		return api.Node{}, n.Pos, api.ErrLimit
	}
	return n, 0, api.OK
}

// Deeper reads one level deeper.
func Deeper(c *cursor.Cursor, read func() (api.Node, bool)) (api.Node, bool) {
	if !c.Enter() {
		return api.Node{}, false
	}
	n, ok := read()
	if !ok {
		return api.Node{}, false
	}
	c.Leave()
	return n, true
}

// Bracketed reads ( what is read ), one level deeper from ahead of the (.
func Bracketed(c *cursor.Cursor, read func() (api.Node, bool)) (api.Node, bool) {
	return Deeper(c, func() (api.Node, bool) {
		if !c.Want("(") {
			return api.Node{}, false
		}
		n, ok := read()
		if !ok || !c.Want(")") {
			return api.Node{}, false
		}
		return n, true
	})
}

// Failed tells whether c has failed (a nil one, too), and changes nothing.
func Failed(c *cursor.Cursor) bool {
	if c.Peek().Kind != api.TokEnd {
		return false
	}
	_, ok := c.Kind(api.TokEnd)
	return !ok
}
