package printer

import (
	"strings"
	"testing"

	"envoy/api"
	"envoy/nodes"
	"envoy/pdecls"
	"envoy/pexps"
	"envoy/ppats"
	"envoy/ptypes"
)

type reads func(string) (api.Node, int, api.Errno)

// both tells that a text is read, written as wanted, and read as the same tree again.
func both(t *testing.T, s, want string, read reads, write func(api.Node) string) {
	t.Helper()
	n, at, e := read(s)
	if e != api.OK {
		t.Fatalf("%q: %d %d", s, at, e)
	}
	got := write(n)
	if got != want {
		t.Errorf("%q: %q, not %q", s, got, want)
	}
	if m, _, e := read(got); e != api.OK || !nodes.Same(m, n) {
		t.Errorf("%q: not the same tree again", got)
	}
}

func TestTypes(t *testing.T) {
	for s, want := range map[string]string{
		"a":                    "a",
		"T  a(U b)V":           "T a (U b) V",
		"a->b->c":              "a -> b -> c",
		"(a->b)->c":            "(a -> b) -> c",
		"((a -> b) -> c) -> d": "((a -> b) -> c) -> d",
		"T (a->b) -> (U c)":    "T (a -> b) -> U c",
		"T ((a->b)->c) (V)":    "T ((a -> b) -> c) V",
	} {
		both(t, s, want, ptypes.Type, Type)
		both(t, s, want, ptypes.Qual, Qual)
	}
	for s, want := range map[string]string{
		"()=>a":                        "a",
		"C a=>a":                       "C a => a",
		"(C a)=>a":                     "C a => a",
		"(C a,D (T b),E (a->b))=>a->b": "(C a, D (T b), E (a -> b)) => a -> b",
	} {
		both(t, s, want, ptypes.Qual, Qual)
	}
}

func TestPats(t *testing.T) {
	for s, want := range map[string]string{"x": "x", "_": "_", "012": "12", "K": "K", "K x(L _ 1)M": "K x (L _ 1) M", "((K))": "K"} {
		both(t, s, want, ppats.Pat, Pat)
	}
}

func TestExps(t *testing.T) {
	for s, want := range map[string]string{
		"x":                           "x",
		"f x(g 1)K":                   "f x (g 1) K",
		"\\x y->f x":                  "\\ x -> \\ y -> f x",
		"(\\x->x)(\\y->y)":            "(\\ x -> x) (\\ y -> y)",
		"let{x=1;y::C a=>a;}in x":     "let { x = 1; y :: C a => a } in x",
		"let{f x=x}in f":              "let { f = \\ x -> x } in f",
		"case x of{K _->1;y->(f y);}": "case x of { K _ -> 1; y -> f y }",
		"if a then b else c":          "if a then b else c",
		"(if a then b else c)(case x of{_->let{y=1}in y})z": "(if a then b else c) (case x of { _ -> let { y = 1 } in y }) z",
		"f (g x) (h (i y))": "f (g x) (h (i y))",
		"((f x) y)":         "f x y",
	} {
		both(t, s, want, pexps.Exp, Exp)
	}
}

func TestDecls(t *testing.T) {
	for s, want := range map[string]string{
		"data B=T|F":                                "data B = T | F",
		"data M a b=N|J a(M a b)(a->b)":             "data M a b = N | J a (M a b) (a -> b)",
		"class C a where{}":                         "class C a where { }",
		"class(D a)=>C a where{m::a;n::E b=>b->a;}": "class D a => C a where { m :: a; n :: E b => b -> a }",
		"class(D a,E a)=>C a where{}":               "class (D a, E a) => C a where { }",
		"instance C Int where{}":                    "instance C Int where { }",
		"instance(C a,D b)=>C(T a b)where{m=1;n=f}": "instance (C a, D b) => C (T a b) where { m = 1; n = f }",
		"instance C(a->b)where{m x=x}":              "instance C (a -> b) where { m = \\ x -> x }",
		"x=1":                                       "x = 1",
		"x::C a=>a":                                 "x :: C a => a",
	} {
		both(t, s, want, pdecls.Decl, Decl)
		both(t, s+";"+s, want+";\n"+want+";\n", pdecls.Program, Program)
	}
	both(t, "", "", pdecls.Program, Program)
}

func TestTheDeepest(t *testing.T) {
	e := strings.Repeat("f (", 98) + "f x" + strings.Repeat(")", 98)
	both(t, e, e, pexps.Exp, Exp)
	ty := strings.Repeat("(", 98) + "a -> b" + strings.Repeat(") -> b", 98)
	both(t, ty, ty, ptypes.Type, Type)
	p := strings.Repeat("K (", 98) + "K x" + strings.Repeat(")", 98)
	both(t, p, p, ppats.Pat, Pat)
}

func TestRefused(t *testing.T) {
	x := api.Node{Kind: api.ExpVar, Text: "x"}
	a := api.Node{Kind: api.TypeVar, Text: "a"}
	bind := api.Node{Kind: api.BindNode, Text: "x", Kids: []api.Node{x}}
	prog := api.Node{Kind: api.ProgNode, Kids: []api.Node{bind}}
	qual := api.Node{Kind: api.QualNode, Kids: []api.Node{a}}
	deep := a
	for range 98 {
		deep = api.Node{Kind: api.TypeCon, Text: "T", Kids: []api.Node{deep}}
	}
	for name, s := range map[string]string{
		"Type of an expression": Type(x), "Type of zero": Type(api.Node{}), "Type of qual": Type(qual),
		"Qual of a type": Qual(a), "Qual too deep": Qual(api.Node{Kind: api.QualNode, Kids: []api.Node{deep}}), "Qual of none": Qual(api.Node{Kind: api.QualNode}),
		"Pat": Pat(x), "Exp of a type": Exp(a), "Exp of a binding": Exp(bind), "Exp of two": Exp(api.Node{Kind: api.ExpApp, Kids: []api.Node{x}}),
		"Decl of a program": Decl(prog), "Decl of x": Decl(x), "Program of a binding": Program(bind), "Program of bad": Program(api.Node{Kind: api.ProgNode, Kids: []api.Node{x}}),
		"Decl of data": Decl(api.Node{Kind: api.DataNode, Text: "D", N: 3}),
	} {
		if s != "" {
			t.Errorf("%s: %q", name, s)
		}
	}
	if Type(deep) == "" {
		t.Error("99 levels")
	}
}
