package fcheck

import (
	"testing"

	"envoy/api"
	"envoy/classenv"
	"envoy/ftypes"
	"envoy/pdecls"
	"envoy/terms"
)

func read(s string) api.Type {
	t, e := terms.Read(s)
	if e != api.OK {
		panic(s)
	}
	return t
}

func types(l ...string) []api.Type {
	var out []api.Type
	for _, s := range l {
		out = append(out, read(s))
	}
	return out
}

func v(name string) api.Term { return api.Term{Kind: api.TermVar, Name: name} }

func n(k int) api.Term { return api.Term{Kind: api.TermInt, N: k} }

func app(f api.Term, l ...api.Term) api.Term {
	for _, x := range l {
		f = api.Term{Kind: api.TermApp, Kids: []api.Term{f, x}}
	}
	return f
}

func lamAt(name string, at api.Type, t api.Term) api.Term {
	return api.Term{Kind: api.TermLam, Name: name, Types: []api.Type{at}, Kids: []api.Term{t}}
}

func lam(name, at string, t api.Term) api.Term { return lamAt(name, read(at), t) }

func all(t api.Term, vars ...int) api.Term {
	return api.Term{Kind: api.TermAll, Vars: vars, Kids: []api.Term{t}}
}

func inst(t api.Term, l ...string) api.Term {
	return api.Term{Kind: api.TermInst, Types: types(l...), Kids: []api.Term{t}}
}

func con(name string, l ...string) api.Term {
	return api.Term{Kind: api.TermCon, Name: name, Types: types(l...)}
}

func pv(name string) api.Term { return api.Term{Kind: api.TermPatVar, Name: name} }

func pi(k int) api.Term { return api.Term{Kind: api.TermPatInt, N: k} }

func pc(name string, kids ...api.Term) api.Term {
	return api.Term{Kind: api.TermPatCon, Name: name, Kids: kids}
}

func alt(p, t api.Term) api.Term { return api.Term{Kind: api.TermAlt, Kids: []api.Term{p, t}} }

func choice(kids ...api.Term) api.Term { return api.Term{Kind: api.TermCase, Kids: kids} }

func let(kids ...api.Term) api.Term { return api.Term{Kind: api.TermLet, Kids: kids} }

func bind(name, at string, t api.Term, vars ...int) api.Term {
	return api.Term{Kind: api.TermBind, Name: name, Vars: vars, Types: types(at), Kids: []api.Term{t}}
}

func dict(name, at string, kids ...api.Term) api.Term {
	return api.Term{Kind: api.TermDict, Name: name, Types: types(at), Kids: kids}
}

func proj(name string, k int, t api.Term) api.Term {
	return api.Term{Kind: api.TermProj, Name: name, N: k, Kids: []api.Term{t}}
}

var anyPat = api.Term{Kind: api.TermPatAny}

func envOf(t *testing.T) api.Env {
	t.Helper()
	p, _, e := pdecls.Program("data M a = N | J a; data P a b = P a b; class Eq a where { eq :: a -> a -> Bool }; class Eq a => Ord a where { to :: a -> b -> c -> b }")
	if e != api.OK {
		t.Fatal(e)
	}
	env, at, e := classenv.Build(p)
	if e != api.OK {
		t.Fatal(at, e)
	}
	return env
}

// around: x : Int, f : forall a. a -> T b, m : M ?0, d : {Ord} (M c), and an x ahead that does not count.
func around() []api.Typed {
	return []api.Typed{
		{Name: "x", Poly: api.Poly{Type: read("Bool")}},
		{Name: "x", Poly: api.Poly{Type: read("Int")}},
		{Name: "f", Poly: api.Poly{Vars: []int{0}, Type: read("a -> M b")}},
		{Name: "m", Poly: api.Poly{Type: read("M ?0")}},
		{Name: "d", Poly: api.Poly{Type: ftypes.Dict("Ord", read("M c"))}},
	}
}

func TestType(t *testing.T) {
	env := envOf(t)
	for i, c := range []struct {
		t    api.Term
		want string
	}{
		{v("x"), "Int"},
		{v("add"), "Int -> Int -> Int"},
		{app(v("add"), n(1)), "Int -> Int"},
		{v("f"), "forall a. a -> M b"},
		{inst(v("f"), "T"), "T -> M b"},
		{inst(v("x")), "Int"},
		{lam("y", "j", v("y")), "j -> j"},
		{lam("x", "j", v("x")), "j -> j"},
		{lam("add", "j", v("add")), "j -> j"},
		{all(lam("y", "j", v("y")), 9), "forall j. j -> j"},
		{all(all(lam("y", "j", v("y")), 9), 8), "forall i j. j -> j"},
		{all(v("f"), 7), "forall h a. a -> M b"},
		{all(n(1)), "Int"},
		{inst(all(lam("y", "j", v("y")), 9), "Int"), "Int -> Int"},
		{con("N", "a"), "M a"},
		{con("J", "a"), "a -> M a"},
		{con("P", "a", "b"), "a -> b -> P a b"},
		{con("True"), "Bool"},
		{choice(v("x"), alt(pi(1), con("True")), alt(pv("y"), app(v("eqInt"), v("y"), v("x")))), "Bool"},
		{choice(v("m"), alt(pc("J", pv("y")), v("y")), alt(pc("N"), v("z"))), "?0"},
		{let(bind("g", "j -> k -> j", lam("a", "j", lam("b", "k", v("a"))), 9, 10), inst(v("g"), "Int", "Bool")), "Int -> Bool -> Int"},
		{let(bind("g", "Int -> Int", lam("a", "Int", app(v("h"), v("a")))), bind("h", "Int -> Int", v("g")), v("h")), "Int -> Int"},
		{let(n(1)), "Int"},
		{dict("Eq", "Int", v("eqInt")), "{Eq} Int"},
		{proj("Ord", 0, v("d")), "{Eq} (M c)"},
		{proj("Ord", 1, v("d")), "forall d e. M c -> d -> e -> d"},
		{inst(proj("Ord", 1, v("d")), "Int", "a"), "M c -> Int -> a -> Int"},
		{lamAt("e", ftypes.Dict("Ord", read("a")), dict("Ord", "a", proj("Ord", 0, v("e")), proj("Ord", 1, v("e")))), "{Ord} a -> {Ord} a"},
		{lamAt("e", ftypes.Dict("Ord", read("a")), dict("Ord", "a", proj("Ord", 0, v("e")), all(inst(proj("Ord", 1, v("e")), "j", "k"), 9, 10))), "{Ord} a -> {Ord} a"},
	} {
		l := append(around(), api.Typed{Name: "z", Poly: api.Poly{Type: read("?0")}})
		p, e := Type(env, l, c.t)
		if e != api.OK || ftypes.Text(p) != c.want {
			t.Error(i, ftypes.Text(p), e)
		}
	}
}

func TestRefused(t *testing.T) {
	env := envOf(t)
	for i, c := range []struct {
		t api.Term
		e api.Errno
	}{
		{v("z"), api.ErrUnknown},
		{api.Term{Kind: api.TermHole, N: 0}, api.ErrArg},
		{app(v("x"), n(1)), api.ErrMismatch},
		{app(v("add"), con("True")), api.ErrMismatch},
		{app(v("f"), v("z")), api.ErrMismatch},
		{app(v("add"), all(n(1), 9)), api.ErrMismatch},
		{app(v("z"), api.Term{Kind: api.TermHole}), api.ErrUnknown},
		{app(app(v("x"), n(1)), v("z")), api.ErrMismatch},
		{lam("y", "a", v("f")), api.ErrMismatch},
		{all(n(1), 9, 9), api.ErrTwice},
		{all(n(1), 1), api.ErrTwice},
		{all(n(1), -1), api.ErrTwice},
		{all(n(1), 2), api.ErrTwice},
		{all(all(n(1), 9), 9), api.ErrTwice},
		{all(v("f"), 0), api.ErrTwice},
		{lam("y", "j", all(v("y"), 9)), api.ErrTwice},
		{lam("y", "j", lam("y", "Int", all(v("y"), 9))), api.ErrTwice},
		{all(lam("y", "j", v("z")), 9, 9), api.ErrUnknown},
		{inst(v("f")), api.ErrArity},
		{inst(v("f"), "a", "b"), api.ErrArity},
		{inst(v("x"), "a"), api.ErrArity},
		{con("Z"), api.ErrUnknown},
		{con("N"), api.ErrArity},
		{con("True", "a"), api.ErrArity},
		{choice(v("f"), alt(anyPat, n(1))), api.ErrMismatch},
		{choice(v("x"), alt(anyPat, v("f"))), api.ErrMismatch},
		{choice(v("x"), alt(anyPat, n(1)), alt(anyPat, con("True"))), api.ErrMismatch},
		{choice(v("x"), alt(pc("True"), n(1))), api.ErrMismatch},
		{choice(v("m"), alt(pi(1), n(1))), api.ErrMismatch},
		{choice(v("m"), alt(pc("Z"), v("z"))), api.ErrUnknown},
		{choice(v("m"), alt(pc("J"), v("z"))), api.ErrArity},
		{choice(v("m"), alt(anyPat, n(1)), alt(pc("J", pv("y")), v("y")), alt(anyPat, v("z"))), api.ErrMismatch},
		{app(choice(v("m"), alt(pc("J", pv("y")), n(1))), v("y")), api.ErrUnknown},
		{let(bind("g", "Int", v("z")), v("y")), api.ErrUnknown},
		{let(bind("g", "Bool", n(1)), v("g")), api.ErrMismatch},
		{let(bind("g", "j -> j", all(lam("y", "j", v("y")), 9)), n(1)), api.ErrTwice},
		{let(bind("g", "Int", all(n(1), 9)), n(1)), api.ErrMismatch},
		{let(bind("g", "Int", n(1)), bind("g", "Int", n(1)), v("g")), api.ErrTwice},
		{let(bind("g", "Int", n(1), 9, 9), v("g")), api.ErrTwice},
		{let(bind("g", "Int", n(1), 2), v("g")), api.ErrTwice},
		{let(bind("g", "j", v("g"), 9), v("g")), api.ErrMismatch},
		{let(bind("g", "Int", n(1)), all(v("g"), 9)), api.ErrMismatch},
		{dict("Z", "Int", v("z")), api.ErrUnknown},
		{dict("Z", "Int"), api.ErrUnknown},
		{dict("Eq", "Int"), api.ErrArity},
		{dict("Eq", "Int", v("eqInt"), v("eqInt")), api.ErrArity},
		{dict("Eq", "Int", v("add")), api.ErrMismatch},
		{dict("Eq", "Bool", v("eqInt")), api.ErrMismatch},
		{dict("Ord", "Int", dict("Eq", "Int", v("eqInt")), lam("a", "Int", v("a"))), api.ErrMismatch},
		{dict("Ord", "M c", proj("Ord", 0, v("d")), inst(proj("Ord", 1, v("d")), "a", "b")), api.ErrMismatch},
		{proj("Eq", 0, v("d")), api.ErrMismatch},
		{proj("Ord", 2, v("d")), api.ErrArity},
		{proj("Ord", 0, v("x")), api.ErrMismatch},
		{proj("Ord", 0, v("f")), api.ErrMismatch},
		{v(""), api.ErrArg},
	} {
		p, e := Type(env, around(), c.t)
		if e != c.e || p.Vars != nil || p.Type.Con != "" {
			t.Error(i, ftypes.Text(p), e)
		}
	}
	if _, e := Type(env, []api.Typed{{Name: "x", Poly: api.Poly{Type: api.Type{Con: "t"}}}}, n(1)); e != api.ErrArg {
		t.Error(e)
	}
	// A variable that is free in a shadowed name's type is free, too.
	if _, e := Type(env, []api.Typed{{Name: "x", Poly: api.Poly{Type: read("j")}}, {Name: "x", Poly: api.Poly{Type: read("Int")}}}, all(v("x"), 9)); e != api.ErrTwice {
		t.Error(e)
	}
}

func TestLimit(t *testing.T) {
	env := envOf(t)
	deep := read("a")
	for range 99 {
		deep = api.Type{Con: "M", Args: []api.Type{deep}}
	}
	if _, e := Type(env, nil, lamAt("x", deep, v("x"))); e != api.ErrLimit {
		t.Error(e)
	}
	if _, e := Type(env, nil, api.Term{Kind: api.TermCon, Name: "N", Types: []api.Type{deep}}); e != api.ErrLimit {
		t.Error(e)
	}
	l := []api.Typed{{Name: "f", Poly: api.Poly{Vars: []int{0}, Type: read("a -> a")}}}
	if _, e := Type(env, l, api.Term{Kind: api.TermInst, Types: []api.Type{deep}, Kids: []api.Term{v("f")}}); e != api.ErrLimit {
		t.Error(e)
	}
	if _, e := Type(env, nil, api.Term{Kind: api.TermDict, Name: "Eq", Types: []api.Type{deep}, Kids: []api.Term{n(1)}}); e != api.ErrLimit {
		t.Error(e)
	}
}

func TestPat(t *testing.T) {
	env := envOf(t)
	l, e := Pat(env, pc("P", pc("J", pv("y")), pc("P", pv("x"), anyPat)), read("P (M Int) (P a b)"))
	if e != api.OK || len(l) != 2 || l[0].Name != "y" || ftypes.Text(l[0].Poly) != "Int" || l[1].Name != "x" || ftypes.Text(l[1].Poly) != "a" {
		t.Error(l, e)
	}
	if l, e := Pat(env, pi(-1), read("Int")); e != api.OK || len(l) != 0 {
		t.Error(l, e)
	}
	if l, e := Pat(env, pv("y"), read("!0")); e != api.OK || len(l) != 1 {
		t.Error(l, e)
	}
	for i, c := range []struct {
		p  api.Term
		at string
		e  api.Errno
	}{
		{n(1), "Int", api.ErrArg},
		{pc(""), "Int", api.ErrArg},
		{pi(1), "a", api.ErrMismatch},
		{pc("Z"), "Int", api.ErrUnknown},
		{pc("J"), "Int", api.ErrArity},
		{pc("J", anyPat, anyPat), "M a", api.ErrArity},
		{pc("J", anyPat), "Int", api.ErrMismatch},
		{pc("J", anyPat), "a", api.ErrMismatch},
		{pc("J", anyPat), "M", api.ErrMismatch},
		{pc("P", pv("x"), pv("x")), "P a b", api.ErrTwice},
		{pc("P", pc("P", pv("x"), pv("x")), pi(1)), "P (P a b) c", api.ErrMismatch},
		{pc("P", pi(1), pc("Z")), "P a b", api.ErrMismatch},
	} {
		if l, e := Pat(env, c.p, read(c.at)); e != c.e || l != nil {
			t.Error(i, l, e)
		}
	}
	if _, e := Pat(env, anyPat, api.Type{Con: "t"}); e != api.ErrArg {
		t.Error(e)
	}
}

func TestBinds(t *testing.T) {
	env := envOf(t)
	idBind := bind("id", "a -> a", lam("y", "a", v("y")), 0)
	for i, c := range []struct {
		l     []api.Typed
		binds []api.Term
		at    int
		e     api.Errno
	}{
		{nil, nil, 0, api.OK},
		{around(), []api.Term{bind("a", "Int", app(v("b"), v("x"))), bind("b", "Int -> Int", inst(v("id"), "Int -> Int")), bind("c", "Int", n(1))}, 1, api.ErrUnknown},
		{around(), []api.Term{bind("a", "Int", app(v("b"), v("x"))), bind("b", "Int -> Int", inst(v("id"), "Int")), idBind}, 0, api.OK},
		{nil, []api.Term{bind("a", "Int", v("z")), bind("a", "Int", n(1)), n(1)}, 2, api.ErrArg},
		{nil, []api.Term{bind("a", "Int", v("z")), bind("a", "Int", n(1))}, 1, api.ErrTwice},
		{nil, []api.Term{idBind, bind("a", "Bool", n(1)), bind("b", "Int", v("z"))}, 1, api.ErrMismatch},
		{around(), []api.Term{idBind, bind("a", "Int", n(1), 1)}, 1, api.ErrTwice},
		{nil, []api.Term{idBind, bind("a", "Int", n(1), 1, 1)}, 1, api.ErrTwice},
		{[]api.Typed{{Poly: api.Poly{Type: api.Type{Con: "t"}}}}, []api.Term{n(1), n(1)}, 0, api.ErrArg},
		// What is free in another one's type here is not free around.
		{nil, []api.Term{bind("a", "a", v("a")), idBind}, 0, api.OK},
	} {
		if at, e := Binds(env, c.l, c.binds); at != c.at || e != c.e {
			t.Error(i, at, e)
		}
	}
}

func TestMemoryIsNew(t *testing.T) {
	env := envOf(t)
	x := lamAt("y", read("M a"), v("y"))
	p, _ := Type(env, nil, x)
	p.Type.Args[0].Args[0].Var = 9
	if x.Types[0].Args[0].Var != 0 || p.Type.Args[1].Args[0].Var != 0 {
		t.Error("memory is shared")
	}
	l := around()
	q, _ := Type(env, l, v("f"))
	q.Vars[0], q.Type.Args[0].Var = 9, 9
	if l[2].Poly.Vars[0] != 0 || l[2].Poly.Type.Args[0].Var != 0 {
		t.Error("memory is shared")
	}
}
