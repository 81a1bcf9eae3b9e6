package lexer

import (
	"strings"
	"testing"

	"envoy/api"
)

func TestWords(t *testing.T) {
	s := "x' _y Con_1' _ __ 007 if iff ( ) { } ; , = | \\ -> => :: x->1==>a::=b"
	l, at, e := Lex(s)
	if at != 0 || e != api.OK {
		t.Fatalf("%d %d", at, e)
	}
	want := []struct {
		kind, n int
		text    string
	}{
		{api.TokVar, 0, "x'"}, {api.TokVar, 0, "_y"}, {api.TokCon, 0, "Con_1'"}, {api.TokMark, 0, "_"}, {api.TokVar, 0, "__"},
		{api.TokInt, 7, "007"}, {api.TokWord, 0, "if"}, {api.TokVar, 0, "iff"},
		{api.TokMark, 0, "("}, {api.TokMark, 0, ")"}, {api.TokMark, 0, "{"}, {api.TokMark, 0, "}"}, {api.TokMark, 0, ";"},
		{api.TokMark, 0, ","}, {api.TokMark, 0, "="}, {api.TokMark, 0, "|"}, {api.TokMark, 0, "\\"}, {api.TokMark, 0, "->"},
		{api.TokMark, 0, "=>"}, {api.TokMark, 0, "::"},
		{api.TokVar, 0, "x"}, {api.TokMark, 0, "->"}, {api.TokInt, 1, "1"}, {api.TokMark, 0, "="}, {api.TokMark, 0, "=>"}, {api.TokVar, 0, "a"},
		{api.TokMark, 0, "::"}, {api.TokMark, 0, "="}, {api.TokVar, 0, "b"},
		{api.TokEnd, 0, ""},
	}
	if len(l) != len(want) {
		t.Fatalf("%d words: %v", len(l), l)
	}
	for i, w := range want {
		if l[i].Kind != w.kind || l[i].N != w.n || l[i].Text != w.text {
			t.Errorf("word %d: %v, not %v", i, l[i], w)
		}
		if !strings.HasPrefix(s[l[i].Pos:], w.text) {
			t.Errorf("word %d stands not at %d", i, l[i].Pos)
		}
	}
	if l[len(l)-1].Pos != len(s) {
		t.Errorf("the end at %d", l[len(l)-1].Pos)
	}
}

func TestBetween(t *testing.T) {
	for s, want := range map[string]string{
		"":                       "",
		"\t\n\r ":                "",
		"-- a":                   "",
		"a--b\nc":                "a c",
		"a -->b":                 "a",
		"a->--x\n--y\n b--":      "a -> b",
		"1a2 a1 2'":              "",
		"0x":                     "0 x",
		"a--\xff\x00\n--'\n1 --": "a 1",
	} {
		l, at, e := Lex(s)
		if s == "1a2 a1 2'" {
			if l != nil || at != 8 || e != api.ErrChar {
				t.Errorf("%q: %v %d %d", s, l, at, e)
			}
			continue
		}
		if got := Text(l); got != want || at != 0 || e != api.OK {
			t.Errorf("%q: %q %d %d", s, got, at, e)
		}
	}
}

func TestRefused(t *testing.T) {
	for _, c := range []struct {
		s  string
		at int
		e  api.Errno
	}{
		{"a - b", 2, api.ErrChar},
		{"a:b", 1, api.ErrChar},
		{"a\x00", 1, api.ErrChar},
		{"\u00e9", 0, api.ErrChar},
		{"x '", 2, api.ErrChar},
		{"\v", 0, api.ErrChar},
		{"a 9223372036854775808 -", 2, api.ErrNumber},
		{"- 9223372036854775808", 0, api.ErrChar},
		{"->-", 2, api.ErrChar},
		{strings.Repeat(" ", api.MaxText) + "-", 0, api.ErrLimit},
		{strings.Repeat(" ", api.MaxText-1) + "-", api.MaxText - 1, api.ErrChar},
	} {
		if l, at, e := Lex(c.s); len(l) != 0 || at != c.at || e != c.e {
			t.Errorf("%.30q: %v %d %d", c.s, l, at, e)
		}
	}
	if l, _, e := Lex(strings.Repeat(" ", api.MaxText)); e != api.OK || len(l) != 1 || l[0].Pos != api.MaxText {
		t.Errorf("the longest text: %v %d", l, e)
	}
}

func TestText(t *testing.T) {
	if got := Text([]api.Token{{Kind: api.TokVar, Text: "a"}, {Kind: api.TokInt, N: 1, Text: "01"}, {}, {Kind: api.TokVar, Text: "b"}}); got != "a 01" {
		t.Errorf("%q", got)
	}
	if Text(nil) != "" {
		t.Error("of none")
	}
}

func TestSame(t *testing.T) {
	a, _, _ := Lex("x -> 1")
	b, _, _ := Lex("  x->1")
	if !Same(a, b) || !Same(nil, nil) || !Same(nil, []api.Token{}) {
		t.Error("the same but for Pos")
	}
	for _, s := range []string{"x -> 2", "x -> 01", "x ->", "y -> 1", "x -> 1 1"} {
		if c, _, _ := Lex(s); Same(a, c) || Same(c, a) {
			t.Errorf("%q is not the same", s)
		}
	}
	if Same([]api.Token{{Kind: api.TokVar}}, []api.Token{{Kind: api.TokCon}}) {
		t.Error("other kinds")
	}
}
