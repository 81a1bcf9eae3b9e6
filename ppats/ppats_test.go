package ppats

import (
	"slices"
	"strconv"
	"strings"
	"testing"

	"envoy/api"
	"envoy/cursor"
	"envoy/lexer"
)

// show tells a tree with places.
func show(n api.Node) string {
	s := n.Text
	switch n.Kind {
	case api.PatAny:
		s = "_"
	case api.PatInt:
		s = strconv.Itoa(n.N)
	}
	s += "@" + strconv.Itoa(n.Pos)
	if len(n.Kids) > 0 {
		var l []string
		for _, k := range n.Kids {
			l = append(l, show(k))
		}
		s += "(" + strings.Join(l, " ") + ")"
	}
	return s
}

func TestPat(t *testing.T) {
	for s, want := range map[string]string{
		"x":             "x@0",
		" _":            "_@1",
		"12":            "12@0",
		"K":             "K@0",
		"K x (L _)":     "K@0(x@2 L@5(_@7))",
		"K L M":         "K@0(L@2 M@4)",
		"((K 1)) ":      "K@2(1@4)",
		"K (K (K x))_3": "K@0(K@3(K@6(x@8)) _3@11)",
	} {
		n, at, e := Pat(s)
		if got := show(n); got != want || at != 0 || e != api.OK {
			t.Errorf("%q: %s %d %d", s, got, at, e)
		}
	}
	if n, _, _ := Pat("K x _ 1"); n.Kind != api.PatCon || n.Kids[0].Kind != api.PatVar || n.Kids[1].Kind != api.PatAny || n.Kids[2].Kind != api.PatInt {
		t.Error("kinds")
	}
}

func TestPatRefused(t *testing.T) {
	for _, c := range []struct {
		s  string
		at int
		e  api.Errno
	}{
		{"", 0, api.ErrParse},
		{"x y", 2, api.ErrParse},
		{"(K) x", 4, api.ErrParse},
		{"1 2", 2, api.ErrParse},
		{"K (x", 4, api.ErrParse},
		{"K ()", 3, api.ErrParse},
		{"K if", 2, api.ErrParse},
		{"K ->", 2, api.ErrParse},
		{"K -", 2, api.ErrChar},
		{"9223372036854775808", 0, api.ErrNumber},
		{strings.Repeat("(", 99) + "x" + strings.Repeat(")", 99), 0, api.OK},
		{strings.Repeat("(", 100) + "x" + strings.Repeat(")", 100), 100, api.ErrLimit},
		{strings.Repeat("K (", 99) + "x" + strings.Repeat(")", 99), 0, api.OK},
		{strings.Repeat("K (", 99) + "K x" + strings.Repeat(")", 99), 0, api.ErrLimit},
	} {
		n, at, e := Pat(c.s)
		if at != c.at || e != c.e {
			t.Errorf("%.30q: %d %d, not %d %d", c.s, at, e, c.at, c.e)
		}
		if e != api.OK && (n.Kind != 0 || n.Kids != nil) {
			t.Errorf("%.30q: a tree beside an error", c.s)
		}
	}
}

func TestAt(t *testing.T) {
	l, _, _ := lexer.Lex("K x -> y")
	c := cursor.New(l)
	if n, ok := At(c); !ok || show(n) != "K@0(x@2)" || !c.Is("->") {
		t.Error(show(n), ok)
	}
	if n, ok := At(c); ok || n.Kind != 0 {
		t.Error("at a mark", n)
	}
	if n, ok := At(c); ok || n.Kind != 0 {
		t.Error("failed", n)
	}
	if n, ok := At(nil); ok || n.Kind != 0 {
		t.Error("nil", n)
	}
}

func TestVarsLinear(t *testing.T) {
	for _, c := range []struct {
		s      string
		vars   []string
		at     int
		linear bool
	}{
		{"x", []string{"x"}, 0, true},
		{"_", nil, 0, true},
		{"K y (L x _) 3 z", []string{"y", "x", "z"}, 0, true},
		{"K x (L y y) x", []string{"x", "y", "y", "x"}, 9, false},
		{"K x x", []string{"x", "x"}, 4, false},
	} {
		n, _, _ := Pat(c.s)
		if got := Vars(n); !slices.Equal(got, c.vars) {
			t.Errorf("%q: %v", c.s, got)
		}
		if at, ok := Linear(n); at != c.at || ok != c.linear {
			t.Errorf("%q: %d %v", c.s, at, ok)
		}
	}
	below := api.Node{Kind: api.PatVar, Text: "x", Kids: []api.Node{{Kind: api.PatVar, Text: "x"}}}
	if got := Vars(below); !slices.Equal(got, []string{"x"}) {
		t.Error("below a PatVar", got)
	}
	if _, ok := Linear(below); !ok {
		t.Error("below a PatVar")
	}
	if Vars(api.Node{}) != nil {
		t.Error("the zero one")
	}
}
