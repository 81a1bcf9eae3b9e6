package classenv

import (
	"math"
	"testing"

	"envoy/api"
	"envoy/pdecls"
	"envoy/preds"
)

func pred(class string, v int) api.Pred {
	return api.Pred{Class: class, Type: api.Type{Var: v}}
}

func classes() []api.Class {
	return []api.Class{{Name: "Eq"}, {Name: "Ord", Supers: []string{"Eq"}}, {Name: "Num", Supers: []string{"Ord", "Show"}}, {Name: "Show"}}
}

func env(l ...api.Inst) api.Env { return api.Env{Classes: classes(), Insts: l} }

var (
	eqInt  = api.Inst{Class: "Eq", Con: "Int"}
	ordInt = api.Inst{Class: "Ord", Con: "Int"}
	eqL    = api.Inst{Class: "Eq", Con: "L", N: 1, Preds: []api.Pred{pred("Eq", 0)}}
	ordL   = api.Inst{Class: "Ord", Con: "L", N: 1, Preds: []api.Pred{pred("Ord", 0)}}
	bareL  = api.Inst{Class: "Ord", Con: "L", N: 1}
	bad    = api.Inst{Class: "Eq", Con: "t"}
	nobody = api.Inst{Class: "Nobody", Con: "Int"}
)

func TestCheck(t *testing.T) {
	loop := env(eqInt, bad)
	loop.Classes[0].Supers = []string{"Ord"}
	for i, c := range []struct {
		env api.Env
		at  int
		e   api.Errno
	}{
		{api.Env{}, 0, api.OK},
		{env(eqInt, ordInt, ordL, eqL), 0, api.OK},
		{loop, 0, api.ErrCycle},
		{env(eqInt, eqInt, nobody, bad), 3, api.ErrHead},
		{env(nobody, ordL, eqInt, eqInt, ordL), 3, api.ErrOverlap},
		{env(ordInt, nobody), 1, api.ErrUnknown},
		{env(eqInt, ordInt, ordL), 2, api.ErrSuper},
		{env(eqL, bareL), 1, api.ErrSuper},
		{env(ordInt), 0, api.ErrSuper},
	} {
		if at, e := Check(c.env); at != c.at || e != c.e {
			t.Error(i, at, e)
		}
	}
}

func TestSuper(t *testing.T) {
	x := env(eqInt, ordInt, ordL, nobody)
	for i, want := range map[int]api.Errno{0: api.OK, 1: api.OK, 2: api.ErrSuper, 3: api.ErrArg, 4: api.ErrArg, -1: api.ErrArg, math.MaxInt: api.ErrArg, math.MinInt: api.ErrArg} {
		if e := Super(x, i); e != want {
			t.Error(i, e)
		}
	}
	y := env(eqInt, ordInt, bad)
	if Super(y, 0) != api.OK || Super(y, 1) != api.ErrSuper {
		t.Error("with an instance that may not be nothing follows")
	}
	for _, n := range []int{-5, 101, math.MaxInt, math.MinInt} {
		z := env(api.Inst{Class: "Ord", Con: "T", N: n}, api.Inst{Class: "Eq", Con: "T", N: n})
		if Super(z, 0) != api.ErrSuper || Super(z, 1) != api.OK {
			t.Error(n)
		}
		Missing(z)
	}
	z := env(eqInt)
	z.Classes[0].Supers = []string{"Gone"}
	if Super(z, 0) != api.ErrArg {
		t.Error("classes that are refused")
	}
}

func TestMissing(t *testing.T) {
	x := env(ordL, eqInt, api.Inst{Class: "Num", Con: "Int"}, nobody, ordInt)
	if got := preds.Text(Missing(x)); got != "(Eq (L a), Show Int)" {
		t.Error(got)
	}
	if got := Missing(env(eqInt, ordInt)); len(got) != 0 {
		t.Error(got)
	}
	x.Classes[0].Supers = []string{"Gone"}
	if got := Missing(x); len(got) != 0 {
		t.Error(got)
	}
	if got := preds.Text(Missing(env(api.Inst{Class: "Ord", Con: "P", N: 2, Preds: []api.Pred{pred("Eq", 0)}}))); got != "Eq (P a b)" {
		t.Error(got)
	}
}

func TestBuild(t *testing.T) {
	n, _, e := pdecls.Program("x = 1; instance Ord a => Ord (L a) where { }; class Eq a => Ord a where { lt :: a }; data L a = N | C a; class Eq a where { }; instance Eq a => Eq (L a) where { }")
	if e != api.OK {
		t.Fatal(e)
	}
	if _, at, e := Build(n); at != 7 || e != api.ErrMethod {
		t.Error(at, e)
	}
	n, _, _ = pdecls.Program("instance Ord a => Ord (L a) where { lt = 1 }; class Eq a => Ord a where { lt :: a }; data L a = N | C a; class Eq a where { }; instance Eq a => Eq (L a) where { }")
	got, at, e := Build(n)
	if e != api.OK || at != 0 || len(got.Datas) != 3 || len(got.Classes) != 2 || len(got.Insts) != 2 || got.Classes[0].Name != "Ord" || got.Insts[1].Class != "Eq" {
		t.Error(got, at, e)
	}
	for _, c := range []struct {
		s  string
		at int
		e  api.Errno
	}{
		{"data A = A Z; class C a where { }; class C a where { }", 11, api.ErrUnknown},
		{"class D a => C a where { }", 0, api.ErrUnknown},
		{"x = 1; class D a => C a where { }; class C a => D a where { }", 7, api.ErrCycle},
		{"class (C a, C a) => D a where { }; class C a where { }", 0, api.ErrUnknown},
		{"class C a where { }; class C a => D a where { }; x = 1; instance C Bool where { }; instance D Int where { }", 83, api.ErrSuper},
		{"class C a where { }; instance C Z where { }", 32, api.ErrUnknown},
		{"class C a where { }; instance C Int where { }; instance C Int where { }", 47, api.ErrOverlap},
	} {
		n, _, e := pdecls.Program(c.s)
		if e != api.OK {
			t.Fatal(c.s, e)
		}
		if got, at, e := Build(n); at != c.at || e != c.e || got.Datas != nil || got.Classes != nil {
			t.Error(c.s, at, e)
		}
	}
	for _, n := range []api.Node{{Pos: 5}, {Kind: api.BindNode, Pos: 5}, {Kind: api.ProgNode, Pos: 5, Text: "x"}, {Kind: api.ProgNode, Pos: 5, Kids: []api.Node{{}}}} {
		if _, at, e := Build(n); at != 5 || e != api.ErrArg {
			t.Error(at, e)
		}
	}
}

func TestMemoryIsNew(t *testing.T) {
	x := env(ordL)
	x.Insts[0].Con = "L"
	l := Missing(x)
	l[0].Type.Args[0].Var = 9
	if preds.Text(Missing(x)) != "Eq (L a)" {
		t.Error("memory is shared")
	}
}
