package pdecls

import (
	"strconv"
	"strings"
	"testing"

	"envoy/api"
	"envoy/nodes"
)

// show tells a tree by kinds, numbers and places.
func show(n api.Node) string {
	s := map[int]string{api.DataNode: "data ", api.ConNode: "con ", api.ClassNode: "class ", api.InstNode: "inst ", api.PredNode: "pred ", api.BindNode: "bind ", api.SigNode: "sig ", api.QualNode: "qual", api.ProgNode: "prog"}[n.Kind]
	s += n.Text
	if n.N != 0 || n.Kind == api.ExpInt {
		s += "#" + strconv.Itoa(n.N)
	}
	s += "@" + strconv.Itoa(n.Pos)
	if len(n.Kids) > 0 {
		var l []string
		for _, k := range n.Kids {
			l = append(l, show(k))
		}
		s += "(" + strings.Join(l, " ") + ")"
	}
	return s
}

func TestDecl(t *testing.T) {
	for s, want := range map[string]string{
		"data B = T | F":                      "data B@0(con T@9 con F@13)",
		"data M a = N | J a (M b) C":          "data M#1@0(a@7 con N@11 con J@15(a@17 M@20(b@22) C@25))",
		"class C a where { }":                 "class C@0(a@8)",
		"class C a where{m::a;n::a->a;}":      "class C@0(a@8 sig m@16(qual@19(a@19)) sig n@21(qual@24(->@24(a@24 a@27))))",
		"class (D a, E b) => C a where {}":    "class C#2@0(pred D@7(a@9) pred E@12(b@14) a@22)",
		"instance C Int where { }":            "inst C@0(Int@11)",
		"instance D a => C (T a) where {m=1}": "inst C#1@0(pred D@9(a@11) T@19(a@21) bind m@31(#1@33))",
		"instance C a where {m = 1; n x = x}": "inst C@0(a@11 bind m@20(#1@24) bind n@27(x@29(x@33)))",
		" x = 1":                              "bind x@1(#1@5)",
		"x :: C a => a":                       "sig x@0(qual@5(pred C@5(a@7) a@12))",
	} {
		n, at, e := Decl(s)
		if got := show(n); got != want || at != 0 || e != api.OK {
			t.Errorf("%q: %s %d %d", s, got, at, e)
		}
		if !nodes.Decl(n) {
			t.Errorf("%q: no declaration of nodes", s)
		}
	}
}

func TestProgram(t *testing.T) {
	for s, want := range map[string]string{
		"":                       "prog@0",
		"  -- x":                 "prog@0",
		"data B = T | F;":        "prog@0(data B@0(con T@9 con F@13))",
		" x = 1; y = 2":          "prog@0(bind x@1(#1@5) bind y@8(#2@12))",
		"x::a;x=1;":              "prog@0(sig x@0(qual@3(a@3)) bind x@5(#1@7))",
		"class C a where {};x=1": "prog@0(class C@0(a@8) bind x@19(#1@21))",
	} {
		n, at, e := Program(s)
		if got := show(n); got != want || at != 0 || e != api.OK {
			t.Errorf("%q: %s %d %d", s, got, at, e)
		}
	}
}

func TestRefused(t *testing.T) {
	for _, c := range []struct {
		s  string
		at int
		e  api.Errno
	}{
		{";", 0, api.ErrParse},
		{"x = 1;;", 6, api.ErrParse},
		{"x = 1 data B = T", 6, api.ErrParse},
		{"data b = T", 5, api.ErrParse},
		{"data B =", 8, api.ErrParse},
		{"data B", 6, api.ErrParse},
		{"data B T = T", 7, api.ErrParse},
		{"data B = T |", 12, api.ErrParse},
		{"data B = | T", 9, api.ErrParse},
		{"data B = T a ->", 13, api.ErrParse},
		{"data B = T (a", 13, api.ErrParse},
		{"class C where { }", 8, api.ErrParse},
		{"class C T where { }", 8, api.ErrParse},
		{"class C a { }", 10, api.ErrParse},
		{"class C a where { ; }", 18, api.ErrParse},
		{"class C a where { m = 1 }", 24, api.ErrParse},
		{"class C a where { m :: a;; }", 25, api.ErrParse},
		{"class C a where { m :: a n :: a }", 25, api.ErrParse},
		{"class C a where { m :: a", 24, api.ErrParse},
		{"class D => C a where { }", 8, api.ErrParse},
		{"class D a => where { }", 13, api.ErrParse},
		{"instance C where { }", 11, api.ErrParse},
		{"instance C T a where { }", 13, api.ErrParse},
		{"instance C T where { m :: a }", 28, api.ErrParse},
		{"instance C T where { m :: a; n = 1 }", 27, api.ErrParse},
		{"instance C T where m = 1", 19, api.ErrParse},
		{"x", 1, api.ErrParse},
		{"1 = x", 0, api.ErrParse},
		{"x = 1; ?", 7, api.ErrChar},
		{"x = f" + strings.Repeat(" x", 97), 0, api.OK},
		{" x = f" + strings.Repeat(" x", 98), 0, api.ErrLimit},
		{"x = 1;" + strings.Repeat("x = y; ", 140000), 0, api.OK},
	} {
		n, at, e := Program(c.s)
		if at != c.at || e != c.e {
			t.Errorf("%.40q: %d %d, not %d %d", c.s, at, e, c.at, c.e)
		}
		if e != api.OK && (n.Kind != 0 || n.Kids != nil) {
			t.Errorf("%.40q: a tree beside an error", c.s)
		}
	}
	for _, s := range []string{"", "x = 1;", "x = 1; y = 2"} {
		if n, _, e := Decl(s); e != api.ErrParse || n.Kind != 0 {
			t.Errorf("Decl(%q): %d", s, e)
		}
	}
	if _, at, e := Decl(" x = f" + strings.Repeat(" x", 98)); at != 0 || e != api.OK {
		t.Error("a declaration may be one deeper than within a program", at, e)
	}
	if _, at, e := Decl(" x = f" + strings.Repeat(" x", 99)); at != 1 || e != api.ErrLimit {
		t.Error("too deep", at, e)
	}
}
