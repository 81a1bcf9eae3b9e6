package scope

import (
	"slices"
	"testing"

	"envoy/api"
	"envoy/classenv"
	"envoy/pdecls"
	"envoy/pexps"
	"envoy/ppats"
)

func envOf(t *testing.T) api.Env {
	t.Helper()
	n, _, e := pdecls.Program("data M a = N | J a | P a a; class C a where { m :: a; n :: a }")
	if e != api.OK {
		t.Fatal(e)
	}
	env, at, e := classenv.Build(n)
	if e != api.OK {
		t.Fatal(at, e)
	}
	return env
}

type want struct {
	s  string
	at int
	e  api.Errno
}

func TestPrims(t *testing.T) {
	if got := Prims(); !slices.Equal(got, []string{"add", "eqInt", "ltInt", "mul", "quot", "rem", "sub"}) {
		t.Error(got)
	}
	Prims()[0] = "z"
	if Prims()[0] != "add" {
		t.Error("Prims is shared")
	}
}

func TestPattern(t *testing.T) {
	env := envOf(t)
	for _, c := range []want{
		{"x", 0, api.OK},
		{"P (J x) _", 0, api.OK},
		{"True", 0, api.OK},
		{"Z", 0, api.ErrUnknown},
		{"J (Z x)", 3, api.ErrUnknown},
		{"J", 0, api.ErrArity},
		{"J x y", 0, api.ErrArity},
		{"P (J x x) Z", 3, api.ErrArity},
		{"P Z (J x y)", 2, api.ErrUnknown},
		{"P x (J x)", 7, api.ErrTwice},
		{"P (P x x) Z", 10, api.ErrUnknown},
		{"N x x", 0, api.ErrArity},
	} {
		n, _, e := ppats.Pat(c.s)
		if e != api.OK {
			t.Fatal(c.s)
		}
		if at, e := Pattern(env, n); at != c.at || e != c.e {
			t.Error(c.s, at, e)
		}
	}
	if at, e := Pattern(env, api.Node{Kind: api.ExpVar, Pos: 4, Text: "x"}); at != 4 || e != api.ErrArg {
		t.Error(at, e)
	}
}

func TestExp(t *testing.T) {
	env := envOf(t)
	for _, c := range []want{
		{"f 1 True J", 0, api.OK},
		{"\\ x -> x", 0, api.OK},
		{"\\ x -> y", 7, api.ErrUnknown},
		{"add", 0, api.ErrUnknown},
		{"f Z y", 2, api.ErrUnknown},
		{"f y Z", 2, api.ErrUnknown},
		{"(\\ x -> x) x", 11, api.ErrUnknown},
		{"case f of { J x -> x; y -> y }", 0, api.OK},
		{"case f of { J x -> x; y -> x }", 27, api.ErrUnknown},
		{"case f of { J x y -> z }", 12, api.ErrArity},
		{"case f of { P x x -> z }", 16, api.ErrTwice},
		{"case z of { Z -> z }", 5, api.ErrUnknown},
		{"case f of { x -> z; Z -> f }", 17, api.ErrUnknown},
		{"let { x = y; y = x } in x y f", 0, api.OK},
		{"let { x = 1 } in y", 17, api.ErrUnknown},
		{"let { x = z; x = 1 } in f", 13, api.ErrTwice},
		{"let { y :: a; x = z } in f", 6, api.ErrUnknown},
		{"let { y :: a; x = z; x = 1 } in f", 21, api.ErrTwice},
		{"let { x = z; x :: Z } in f", 10, api.ErrUnknown},
		{"let { x :: Z; x = z } in f", 11, api.ErrUnknown},
		{"let { x :: M; x = z } in f", 11, api.ErrArity},
		{"let { x :: C b => a; x = z } in f", 11, api.ErrAmbiguous},
		{"let { x :: C a => a; x = f } in x", 0, api.OK},
		{"let { f = let { g = f } in g } in g", 34, api.ErrUnknown},
		{"if f then \\ f -> f else g", 24, api.ErrUnknown},
	} {
		n, _, e := pexps.Exp(c.s)
		if e != api.OK {
			t.Fatal(c.s)
		}
		if at, e := Exp(env, []string{"f"}, n); at != c.at || e != c.e {
			t.Error(c.s, at, e)
		}
	}
	if at, e := Exp(env, nil, api.Node{Kind: api.PatVar, Pos: 4, Text: "x"}); at != 4 || e != api.ErrArg {
		t.Error(at, e)
	}
}

func TestBinds(t *testing.T) {
	env := envOf(t)
	x := api.Node{Kind: api.ExpVar, Text: "x"}
	for i, c := range []struct {
		l  []api.Node
		at int
		e  api.Errno
	}{
		{nil, 0, api.OK},
		{[]api.Node{{Kind: api.BindNode, Pos: 3, Text: "y"}}, 3, api.ErrArg},
		{[]api.Node{{Kind: api.BindNode, Pos: 3, Text: "y", Kids: []api.Node{x, x}}}, 3, api.ErrArg},
		{[]api.Node{{Kind: api.BindNode, Pos: 3, Text: "y", Kids: []api.Node{x}}, {Kind: api.SigNode, Pos: 4, Text: "y"}}, 4, api.ErrArg},
		{[]api.Node{{Kind: api.BindNode, Pos: 3, Text: "y", Kids: []api.Node{{Pos: 7}}}}, 7, api.ErrArg},
		{[]api.Node{{Kind: api.DataNode}, {Kind: 99}}, 0, api.OK},
	} {
		if at, e := Binds(env, []string{"x"}, c.l); at != c.at || e != c.e {
			t.Error(i, at, e)
		}
	}
}

func TestProgram(t *testing.T) {
	env := envOf(t)
	for _, c := range []want{
		{"", 0, api.OK},
		{"x = add y m; y :: Int; y = n", 0, api.OK},
		{"add = 1", 0, api.ErrTwice},
		{"y = z; y = 1; m = 1", 14, api.ErrTwice},
		{"x = z; y = 1; y = 2", 14, api.ErrTwice},
		{"add :: Int", 0, api.ErrUnknown},
		{"x = \\ add -> add; data D = D; class E a where { e :: a }", 0, api.OK},
		{"x = e; class E a where { e :: a }", 4, api.ErrUnknown},
	} {
		n, _, e := pdecls.Program(c.s)
		if e != api.OK {
			t.Fatal(c.s)
		}
		if at, e := Program(env, n); at != c.at || e != c.e {
			t.Error(c.s, at, e)
		}
	}
	if at, e := Program(env, api.Node{Kind: api.BindNode, Pos: 4}); at != 4 || e != api.ErrArg {
		t.Error(at, e)
	}
}
