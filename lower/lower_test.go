package lower

import (
	"slices"
	"strings"
	"testing"

	"envoy/api"
	"envoy/nodes"
	"envoy/ptypes"
	"envoy/scheme"
	"envoy/terms"
)

var datas = append(Base(), api.Data{Name: "L", N: 1}, api.Data{Name: "P", N: 2}, api.Data{Name: "L", N: 7})

var env = api.Env{Datas: datas, Classes: []api.Class{{Name: "C"}, {Name: "D"}}}

func typeOf(t *testing.T, s string) api.Node {
	t.Helper()
	n, at, e := ptypes.Type(s)
	if e != api.OK {
		t.Fatal(s, at, e)
	}
	return n
}

func qualOf(t *testing.T, s string) api.Node {
	t.Helper()
	n, at, e := ptypes.Qual(s)
	if e != api.OK {
		t.Fatal(s, at, e)
	}
	return n
}

func TestBaseFind(t *testing.T) {
	b := Base()
	if len(b) != 2 || b[0].Name != "Bool" || b[0].N != 0 || len(b[0].Cons) != 2 || b[0].Cons[0].Name != "False" || b[0].Cons[1].Name != "True" || len(b[0].Cons[0].Types) != 0 || b[1].Name != "Int" || b[1].N != 0 || len(b[1].Cons) != 0 {
		t.Error(b)
	}
	b[0].Cons[0].Name = "x"
	if Base()[0].Cons[0].Name != "False" {
		t.Error("Base is shared")
	}
	if d, ok := Find(datas, "L"); !ok || d.N != 1 {
		t.Error("the first of that name", d)
	}
	if d, ok := Find(datas, "Z"); ok || d.Name != "" {
		t.Error(d)
	}
	d, _ := Find(datas, "Bool")
	d.Cons[0].Name = "x"
	if datas[0].Cons[0].Name != "False" {
		t.Error("Find shares")
	}
}

func TestVars(t *testing.T) {
	if got := Vars(qualOf(t, "(C b, D (T c)) => a -> P b (Q d)")); !slices.Equal(got, []string{"b", "c", "a", "d"}) {
		t.Error(got)
	}
	below := api.Node{Kind: api.TypeVar, Text: "a", Kids: []api.Node{{Kind: api.TypeVar, Text: "b"}}}
	if got := Vars(api.Node{Kids: []api.Node{below}}); !slices.Equal(got, []string{"a"}) {
		t.Error(got)
	}
	if Vars(api.Node{}) != nil {
		t.Error("none")
	}
}

func TestType(t *testing.T) {
	for s, want := range map[string]string{
		"Int":                  "Int",
		"a -> b":               "a -> b",
		"P b (L a) -> c":       "P b (L a) -> c",
		"(a -> Bool) -> L Int": "(a -> Bool) -> L Int",
	} {
		got, at, e := Type(datas, []string{"a", "b", "c", "a"}, typeOf(t, s))
		if terms.Text(got) != want || at != 0 || e != api.OK {
			t.Error(s, terms.Text(got), at, e)
		}
	}
	for _, c := range []struct {
		s  string
		at int
		e  api.Errno
	}{
		{"a -> z", 5, api.ErrUnknown},
		{"L Z", 2, api.ErrUnknown},
		{"Z z", 0, api.ErrUnknown},
		{"L z a", 0, api.ErrArity},
		{"P a (L a a)", 5, api.ErrArity},
		{"L -> z", 0, api.ErrArity},
		{"Int a", 0, api.ErrArity},
		{"P (P z a) Z", 5, api.ErrUnknown},
	} {
		got, at, e := Type(datas, []string{"a"}, typeOf(t, c.s))
		if got.Con != "" || at != c.at || e != c.e {
			t.Error(c.s, at, e)
		}
	}
	if _, at, e := Type(datas, nil, api.Node{Kind: api.ExpVar, Pos: 7, Text: "x"}); at != 7 || e != api.ErrArg {
		t.Error(at, e)
	}
	n := api.Node{Kind: api.TypeCon, Text: "W", Pos: 3}
	for range 4096 {
		n.Kids = append(n.Kids, api.Node{Kind: api.TypeVar, Text: "a"})
	}
	wide := []api.Data{{Name: "W", N: 4096}}
	if _, at, e := Type(wide, []string{"a"}, n); at != 3 || e != api.ErrLimit {
		t.Error(at, e)
	}
	if _, at, e := Type(wide, nil, n); at != 0 || e != api.ErrUnknown {
		t.Error("what may not be is told first", at, e)
	}
}

func TestScheme(t *testing.T) {
	for _, c := range []struct {
		s, want string
		n       int
		vars    []string
	}{
		{"C a => a -> b", "C a => a -> b", 2, []string{"a", "b"}},
		{"(C y, D (L x)) => x -> y", "(C b, D (L a)) => a -> b", 2, []string{"x", "y"}},
		{"Int", "Int", 0, nil},
		{"C Int => x", "C Int => a", 1, []string{"x"}},
	} {
		s, vars, at, e := Scheme(env, qualOf(t, c.s))
		if e != api.OK || at != 0 || scheme.Text(s) != c.want || s.N != c.n || !slices.Equal(vars, c.vars) {
			t.Error(c.s, scheme.Text(s), vars, at, e)
		}
	}
	for _, c := range []struct {
		s  string
		at int
		e  api.Errno
	}{
		{"C b => a", 0, api.ErrAmbiguous},
		{"(C a, D (P a b), C c) => a", 6, api.ErrAmbiguous},
		{"(C b, E a) => a", 6, api.ErrUnknown},
		{"E (L a a) => a", 0, api.ErrUnknown},
		{"(C (L a a), E a) => a", 4, api.ErrArity},
		{"C b => Z", 7, api.ErrUnknown},
		{"C Z => L", 2, api.ErrUnknown},
	} {
		s, vars, at, e := Scheme(env, qualOf(t, c.s))
		if at != c.at || e != c.e || vars != nil || s.N != 0 || s.Preds != nil {
			t.Error(c.s, at, e)
		}
	}
	if _, _, at, e := Scheme(env, api.Node{Kind: api.TypeVar, Pos: 4, Text: "a"}); at != 4 || e != api.ErrArg {
		t.Error(at, e)
	}
	deep := typeOf(t, strings.Repeat("L (", 97)+"L a"+strings.Repeat(")", 97))
	if _, _, at, e := Scheme(env, api.Node{Kind: api.QualNode, Pos: 5, Kids: []api.Node{deep}}); at != 5 || e != api.ErrArg {
		t.Error("too deep for a SigNode", at, e)
	}
}

func TestRaise(t *testing.T) {
	names := []string{"x", "y", "X"}
	for _, s := range []string{"a", "T a -> (b -> a) -> U (V b)", "T"} {
		x, _ := terms.Read(s)
		n, e := Raise(x, names)
		want := typeOf(t, strings.NewReplacer("a", "x", "b", "y").Replace(s))
		if e != api.OK || !nodes.Same(n, want) || n.Pos != 0 {
			t.Error(s, n, e)
		}
	}
	for _, s := range []string{"?0", "d", "c", "!0", "T !0"} {
		x, _ := terms.Read(s)
		if n, e := Raise(x, names); e != api.ErrArg || n.Kind != 0 {
			t.Error(s, n, e)
		}
	}
	if _, e := Raise(api.Type{Con: "t"}, names); e != api.ErrArg {
		t.Error(e)
	}
}
