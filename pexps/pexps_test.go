package pexps

import (
	"strconv"
	"strings"
	"testing"

	"envoy/api"
	"envoy/cursor"
	"envoy/lexer"
)

// show tells a tree by kinds and places.
func show(n api.Node) string {
	s := map[int]string{api.ExpApp: "app", api.ExpLam: "\\", api.ExpLet: "let", api.ExpCase: "case", api.ExpIf: "if", api.AltNode: "alt", api.BindNode: "bind ", api.SigNode: "sig ", api.QualNode: "qual", api.PatAny: "_", api.PatCon: "pat ", api.PatVar: "pat "}[n.Kind]
	s += n.Text
	if n.Kind == api.ExpInt || n.Kind == api.PatInt {
		s = strconv.Itoa(n.N)
	}
	s += "@" + strconv.Itoa(n.Pos)
	if len(n.Kids) > 0 {
		var l []string
		for _, k := range n.Kids {
			l = append(l, show(k))
		}
		s += "(" + strings.Join(l, " ") + ")"
	}
	return s
}

func TestExp(t *testing.T) {
	for s, want := range map[string]string{
		"x":                        "x@0",
		" 12":                      "12@1",
		"K":                        "K@0",
		"f x 1":                    "app@0(app@0(f@0 x@2) 1@4)",
		"(f) x":                    "app@1(f@1 x@4)",
		"f (g x)":                  "app@0(f@0 app@3(g@3 x@5))",
		"\\ x -> x":                "\\x@2(x@7)",
		"\\ x y -> f":              "\\x@2(\\y@4(f@9))",
		"\\ x -> f x":              "\\x@2(app@7(f@7 x@9))",
		"f (\\x->x)":               "app@0(f@0 \\x@4(x@7))",
		"let { x = 1 } in x":       "let@0(bind x@6(1@10) x@17)",
		"let {f x y=x;f::a;} in f": "let@0(bind f@5(\\x@7(\\y@9(x@11))) sig f@13(qual@16(a@16)) f@23)",
		"case x of { K _ -> 1 }":   "case@0(x@5 alt@12(pat K@12(_@14) 1@19))",
		"case x of {1->a;y->b;}":   "case@0(x@5 alt@11(1@11 a@14) alt@16(pat y@16 b@19))",
		"if a then b else c d":     "if@0(a@3 b@10 app@17(c@17 d@19))",
		"case \\x->x of {_->1}":    "case@0(\\x@6(x@9) alt@15(_@15 1@18))",
	} {
		n, at, e := Exp(s)
		if got := show(n); got != want || at != 0 || e != api.OK {
			t.Errorf("%q: %s %d %d", s, got, at, e)
		}
	}
}

func TestExpRefused(t *testing.T) {
	deepApp := "f" + strings.Repeat(" x", 99)
	for _, c := range []struct {
		s  string
		at int
		e  api.Errno
	}{
		{"", 0, api.ErrParse},
		{"\\ -> x", 2, api.ErrParse},
		{"\\ X -> x", 2, api.ErrParse},
		{"\\ x x", 5, api.ErrParse},
		{"\\ _ -> x", 2, api.ErrParse},
		{"\\ x ->", 6, api.ErrParse},
		{"f \\ x -> x", 2, api.ErrParse},
		{"f if a then b else c", 2, api.ErrParse},
		{"let { } in x", 6, api.ErrParse},
		{"let { ; } in x", 6, api.ErrParse},
		{"let { x = 1;; } in x", 12, api.ErrParse},
		{"let { x = 1 y = 2 } in x", 14, api.ErrParse},
		{"let { x = 1 } x", 14, api.ErrParse},
		{"let x = 1 in x", 4, api.ErrParse},
		{"let { x 1 = 2 } in x", 8, api.ErrParse},
		{"let { K = 2 } in x", 6, api.ErrParse},
		{"case x of { }", 12, api.ErrParse},
		{"case x of { x = 1 }", 14, api.ErrParse},
		{"case x of { 1 -> 2", 18, api.ErrParse},
		{"case x { 1 -> 2 }", 7, api.ErrParse},
		{"if a then b", 11, api.ErrParse},
		{"if a else b", 5, api.ErrParse},
		{"(x", 2, api.ErrParse},
		{"()", 1, api.ErrParse},
		{"x)", 1, api.ErrParse},
		{"x _", 2, api.ErrParse},
		{"x = 1", 2, api.ErrParse},
		{"x ? y", 2, api.ErrChar},
		{strings.Repeat("(", 99) + "x" + strings.Repeat(")", 99), 0, api.OK},
		{strings.Repeat("(", 100) + "x" + strings.Repeat(")", 100), 100, api.ErrLimit},
		{deepApp, 0, api.OK},
		{" " + deepApp + " x", 1, api.ErrLimit},
		{strings.Repeat("\\ x -> ", 99) + "x", 0, api.OK},
		{strings.Repeat("\\ x -> ", 100) + "x", 2, api.ErrLimit},
		{strings.Repeat("\\ x -> ", 200) + "x", 1400, api.ErrLimit},
		{"f" + strings.Repeat(" x", 400000), 0, api.ErrLimit},
	} {
		n, at, e := Exp(c.s)
		if at != c.at || e != c.e {
			t.Errorf("%.30q: %d %d, not %d %d", c.s, at, e, c.at, c.e)
		}
		if e != api.OK && (n.Kind != 0 || n.Kids != nil) {
			t.Errorf("%.30q: a tree beside an error", c.s)
		}
	}
}

func words(s string) *cursor.Cursor {
	l, _, _ := lexer.Lex(s)
	return cursor.New(l)
}

func TestBindAt(t *testing.T) {
	for s, want := range map[string]string{
		"x = 1":                "bind x@0(1@4)",
		"f x y = f x":          "bind f@0(\\x@2(\\y@4(app@8(f@8 x@10))))",
		"f :: C a => a -> T":   "sig f@0(qual@5(C@5(a@7) ->@12(a@12 T@17)))",
		"f x = let {y=x} in y": "bind f@0(\\x@2(let@6(bind y@11(x@13) y@19)))",
	} {
		c := words(s + " ;")
		n, ok := BindAt(c)
		if got := show(n); !ok || got != want || !c.Is(";") {
			t.Errorf("%q: %s %v", s, got, ok)
		}
	}
	for s, at := range map[string]int{"X = 1": 0, "x": 1, "x :: 1": 5, "x =": 3, "x y :: a": 4, "x -> y": 2, "f :: C a =>": 11} {
		c := words(s)
		n, ok := BindAt(c)
		if pos, e := c.Done(); ok || n.Kind != 0 || n.Kids != nil || pos != at || e != api.ErrParse {
			t.Errorf("%q: %v %v %d %d", s, n, ok, pos, e)
		}
	}
}

func TestFailedCursors(t *testing.T) {
	failed := words("x")
	failed.Fail(api.ErrArg)
	for _, c := range []*cursor.Cursor{nil, failed} {
		if n, ok := At(c); ok || n.Kind != 0 {
			t.Error("At", n)
		}
		if n, ok := BindAt(c); ok || n.Kind != 0 {
			t.Error("BindAt", n)
		}
	}
}

func TestLevelsAreLeft(t *testing.T) {
	c := words(strings.Repeat("f (x (\\y -> (y))) ; ", 1000))
	for c.Peek().Kind != api.TokEnd {
		At(c)
		c.Want(";")
	}
	if _, e := c.Done(); e != api.OK {
		t.Error(e)
	}
}
