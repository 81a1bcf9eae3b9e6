package ptypes

import (
	"strconv"
	"strings"
	"testing"

	"envoy/api"
	"envoy/cursor"
	"envoy/lexer"
)

// show tells a tree with places: a@0, T@0(..), and so on.
func show(n api.Node) string {
	s := n.Text
	switch n.Kind {
	case api.PredNode:
		s = "pred " + s
	case api.QualNode:
		s = "qual"
	}
	s += "@" + strconv.Itoa(n.Pos)
	if len(n.Kids) > 0 {
		var l []string
		for _, k := range n.Kids {
			l = append(l, show(k))
		}
		s += "(" + strings.Join(l, " ") + ")"
	}
	return s
}

func TestType(t *testing.T) {
	for s, want := range map[string]string{
		"a":                     "a@0",
		" T":                    "T@1",
		"a -> T b":              "->@0(a@0 T@5(b@7))",
		"a -> b -> c":           "->@0(a@0 ->@5(b@5 c@10))",
		"(a -> b) -> c":         "->@1(->@1(a@1 b@6) c@12)",
		"T a (U b) V":           "T@0(a@2 U@5(b@7) V@10)",
		"((T))":                 "T@2",
		"T (a->b)":              "T@0(->@3(a@3 b@6))",
		"(T a) -> (U)":          "->@1(T@1(a@3) U@10)",
		"M (M (M a)) -> \n Int": "->@0(M@0(M@3(M@6(a@8))) Int@17)",
	} {
		n, at, e := Type(s)
		if got := show(n); got != want || at != 0 || e != api.OK {
			t.Errorf("%q: %s %d %d", s, got, at, e)
		}
	}
}

func TestTypeRefused(t *testing.T) {
	for _, c := range []struct {
		s  string
		at int
		e  api.Errno
	}{
		{"", 0, api.ErrParse},
		{"a b", 2, api.ErrParse},
		{"(T) a", 4, api.ErrParse},
		{"a ->", 4, api.ErrParse},
		{"-> a", 0, api.ErrParse},
		{"(a", 2, api.ErrParse},
		{"()", 1, api.ErrParse},
		{"T _", 2, api.ErrParse},
		{"T 1", 2, api.ErrParse},
		{"T a)", 3, api.ErrParse},
		{"data", 0, api.ErrParse},
		{"a => b", 2, api.ErrParse},
		{"a ?", 2, api.ErrChar},
		{"a 99999999999999999999", 2, api.ErrNumber},
		{strings.Repeat("(", 99) + "a" + strings.Repeat(")", 99), 0, api.OK},
		{strings.Repeat("(", 100) + "a" + strings.Repeat(")", 100), 100, api.ErrLimit},
		{strings.Repeat("(", 1000), 100, api.ErrLimit},
		{strings.Repeat("a->", 99) + "a", 0, api.OK},
		{" " + strings.Repeat("a->", 100) + "a", 1, api.ErrLimit},
		{strings.Repeat("a->", 199) + "a", 0, api.ErrLimit},
		{strings.Repeat("a->", 200) + "a", 600, api.ErrLimit},
		{strings.Repeat("a->", 199) + "(a)", 597, api.ErrLimit},
		{strings.Repeat("T (", 98) + "T a" + strings.Repeat(")", 98), 0, api.OK},
	} {
		n, at, e := Type(c.s)
		if at != c.at || e != c.e {
			t.Errorf("%.40q: %d %d, not %d %d", c.s, at, e, c.at, c.e)
		}
		if e != api.OK && (n.Kind != 0 || n.Kids != nil || n.Pos != 0) {
			t.Errorf("%.40q: a tree beside an error", c.s)
		}
	}
}

func TestQual(t *testing.T) {
	for s, want := range map[string]string{
		"a":                   "qual@0(a@0)",
		" C a => a":           "qual@1(pred C@1(a@3) a@8)",
		"(C a) => a":          "qual@0(pred C@1(a@3) a@9)",
		"() => a -> b":        "qual@0(->@6(a@6 b@11))",
		"(C a, D (T b)) => a": "qual@0(pred C@1(a@3) pred D@6(T@9(b@11)) a@18)",
		"(a) -> b":            "qual@0(->@1(a@1 b@7))",
		"C T => a":            "qual@0(pred C@0(T@2) a@7)",
	} {
		n, at, e := Qual(s)
		if got := show(n); got != want || at != 0 || e != api.OK {
			t.Errorf("%q: %s %d %d", s, got, at, e)
		}
	}
	for _, c := range []struct {
		s  string
		at int
		e  api.Errno
	}{
		{"C => a", 2, api.ErrParse},
		{"C a b => a", 4, api.ErrParse},
		{"c a => a", 0, api.ErrParse},
		{"(C a,) => a", 5, api.ErrParse},
		{"(C a D b) => a", 5, api.ErrParse},
		{"(,C a) => a", 1, api.ErrParse},
		{"C a => D a => a", 11, api.ErrParse},
		{"(C a => a)", 5, api.ErrParse},
		{"C a =>", 6, api.ErrParse},
		{"=> a", 0, api.ErrParse},
		{"((C a)) => a", 1, api.ErrParse},
		{"C a => a : b", 9, api.ErrChar},
		{"C " + strings.Repeat("(T ", 98) + "a" + strings.Repeat(")", 98) + " => a", 0, api.ErrLimit},
	} {
		if _, at, e := Qual(c.s); at != c.at || e != c.e {
			t.Errorf("%.40q: %d %d", c.s, at, e)
		}
	}
}

func words(s string) *cursor.Cursor {
	l, _, _ := lexer.Lex(s)
	return cursor.New(l)
}

func TestAtLeavesTheRest(t *testing.T) {
	c := words("T a ; b")
	if n, ok := At(c); !ok || show(n) != "T@0(a@2)" || !c.Is(";") {
		t.Error(show(n), ok)
	}
	c = words("T a")
	if n, ok := AtomAt(c); !ok || show(n) != "T@0" || c.Peek().Text != "a" {
		t.Error(show(n), ok)
	}
	c = words("(T a) b")
	if n, ok := AtomAt(c); !ok || show(n) != "T@1(a@3)" {
		t.Error(show(n), ok)
	}
	c = words("(C a, D b) => a")
	if l, ok := PredsAt(c); !ok || len(l) != 2 || show(l[1]) != "pred D@6(b@8)" || c.Peek().Text != "a" {
		t.Error(l, ok)
	}
	c = words("a ; b => c")
	if l, ok := PredsAt(c); !ok || len(l) != 0 || c.Peek().Text != "a" {
		t.Error(l, ok)
	}
	c = words("")
	if l, ok := PredsAt(c); !ok || len(l) != 0 {
		t.Error("no words, no context")
	}
	// Levels are left again.
	c = words(strings.Repeat("(((a))) ", 1000))
	for c.Peek().Kind != api.TokEnd {
		At(c)
	}
	if _, e := c.Done(); e != api.OK {
		t.Fatal(e)
	}
}

func TestFailedCursors(t *testing.T) {
	failed := words("a")
	failed.Fail(api.ErrLimit)
	for _, c := range []*cursor.Cursor{nil, failed} {
		if n, ok := At(c); ok || n.Kind != 0 {
			t.Error("At")
		}
		if n, ok := AtomAt(c); ok || n.Kind != 0 {
			t.Error("AtomAt")
		}
		if n, ok := QualAt(c); ok || n.Kind != 0 {
			t.Error("QualAt")
		}
		if l, ok := PredsAt(c); ok || l != nil {
			t.Error("PredsAt")
		}
	}
	c := words("T (a b")
	if n, ok := At(c); ok || n.Kind != 0 || n.Text != "" {
		t.Error("a tree beside false", n)
	}
	if at, e := c.Done(); at != 5 || e != api.ErrParse {
		t.Error(at, e)
	}
}
