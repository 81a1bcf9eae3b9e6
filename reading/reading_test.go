package reading

import (
	"testing"

	"envoy/api"
	"envoy/cursor"
	"envoy/lexer"
)

func word(c *cursor.Cursor) (api.Node, bool) {
	w, ok := c.Kind(api.TokVar)
	return api.Node{Kind: api.TypeVar, Pos: w.Pos, Text: w.Text}, ok
}

func TestWhole(t *testing.T) {
	for _, c := range []struct {
		s  string
		at int
		e  api.Errno
	}{{" x", 0, api.OK}, {"x y", 2, api.ErrParse}, {" K", 1, api.ErrParse}, {"x ?", 2, api.ErrChar}} {
		n, at, e := Whole(c.s, word)
		if at != c.at || e != c.e || (e == api.OK) != (n.Text == "x") {
			t.Error(c.s, n, at, e)
		}
	}
}

func TestBracketedFailed(t *testing.T) {
	l, _, _ := lexer.Lex("(x) y")
	c := cursor.New(l)
	read := func() (api.Node, bool) { return word(c) }
	if n, ok := Bracketed(c, read); !ok || n.Text != "x" || Failed(c) {
		t.Error(n, ok)
	}
	if n, ok := Bracketed(c, read); ok || n.Kind != 0 || !Failed(c) {
		t.Error(n, ok)
	}
	if !Failed(nil) || Failed(cursor.New(nil)) {
		t.Error("Failed")
	}
}
