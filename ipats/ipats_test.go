package ipats

import (
	"testing"

	"envoy/api"
	"envoy/classenv"
	"envoy/fcheck"
	"envoy/fterms"
	"envoy/ftypes"
	"envoy/istate"
	"envoy/pdecls"
	"envoy/ppats"
)

func envOf(t *testing.T) api.Env {
	t.Helper()
	n, _, e := pdecls.Program("data M a = N | J a; data P a b = P a b; data S = S Int (M S); data D a = D (P a a)")
	if e != api.OK {
		t.Fatal(e)
	}
	env, at, e := classenv.Build(n)
	if e != api.OK {
		t.Fatal(at, e)
	}
	return env
}

func read(t *testing.T, s string) api.Node {
	t.Helper()
	n, at, e := ppats.Pat(s)
	if e != api.OK {
		t.Fatal(s, at, e)
	}
	return n
}

func text(t api.Type) string { return ftypes.Text(api.Poly{Type: t}) }

func show(vars []api.Typed) string {
	s := ""
	for _, x := range vars {
		s += x.Name + ":" + ftypes.Text(x.Poly) + ";"
	}
	return s
}

func patText(p api.Term) string {
	one := api.Term{Kind: api.TermInt}
	return fterms.Text(api.Term{Kind: api.TermCase, Kids: []api.Term{one, {Kind: api.TermAlt, Kids: []api.Term{p, one}}}})
}

func TestPat(t *testing.T) {
	env := envOf(t)
	for s, want := range map[string][3]string{
		"x":                 {"a", "x:a;", "x"},
		"_":                 {"a", "", "_"},
		"3":                 {"Int", "", "3"},
		"True":              {"Bool", "", "True"},
		"J x":               {"M a", "x:a;", "(J x)"},
		"P y (J x)":         {"P a (M b)", "y:a;x:b;", "(P y (J x))"},
		"S x (J (S 1 y))":   {"S", "x:Int;y:M S;", "(S x (J (S 1 y)))"},
		"D (P x 1)":         {"D Int", "x:Int;", "(D (P x 1))"},
		"D (P (J x) y)":     {"D (M a)", "x:a;y:M a;", "(D (P (J x) y))"},
		"P _ (P x (P N z))": {"P a (P b (P (M c) d))", "x:b;z:d;", "(P _ (P x (P N z)))"},
	} {
		n := read(t, s)
		u, vars, p, at, e := Pat(env, n)
		if e != api.OK || at != 0 || text(u) != want[0] || show(vars) != want[1] || patText(p) != "(case 0 {"+want[2]+" -> 0})" {
			t.Error(s, text(u), show(vars), patText(p), at, e)
		}
		// The checker of System F tells the same.
		l, e := fcheck.Pat(env, p, u)
		if e != api.OK || show(l) != show(vars) {
			t.Error(s, show(l), e)
		}
	}
	for _, c := range []struct {
		s  string
		at int
		e  api.Errno
	}{
		{"Z", 0, api.ErrUnknown},
		{"J Z", 2, api.ErrUnknown},
		{"J", 0, api.ErrArity},
		{"J Z x", 0, api.ErrArity},
		{"J x y", 0, api.ErrArity},
		{"S N x", 2, api.ErrMismatch},
		{"S x (J 1)", 5, api.ErrMismatch},
		{"D (P 1 True)", 3, api.ErrMismatch},
		{"D (P (J 1) 2)", 3, api.ErrMismatch},
		{"P x (P Z x)", 9, api.ErrTwice},
	} {
		u, vars, p, at, e := Pat(env, read(t, c.s))
		if at != c.at || e != c.e || u.Con != "" || vars != nil || p.Kind != 0 {
			t.Error(c.s, at, e)
		}
	}
	if _, _, _, at, e := Pat(env, api.Node{Kind: api.ExpVar, Pos: 7, Text: "x"}); at != 7 || e != api.ErrArg {
		t.Error(at, e)
	}
}

func TestAt(t *testing.T) {
	env := envOf(t)
	s := istate.New()
	s.Var()
	u, vars, p, ok := At(env, s, read(t, "P (J 1) x"))
	if !ok || text(u) != "P ?1 ?2" || show(vars) != "x:?4;" || fterms.Text(p) != "" || text(s.Type(u)) != "P (M Int) ?4" && text(s.Type(u)) != "P (M Int) ?2" {
		t.Error(text(u), show(vars), text(s.Type(u)), ok)
	}
	// The constructor's arg comes first: it has the kid's type.
	if text(s.Type(u)) != "P (M Int) ?4" {
		t.Error(text(s.Type(u)))
	}
	// A name that comes twice is nothing to At.
	if _, vars, _, ok := At(env, s, read(t, "P x x")); !ok || len(vars) != 2 {
		t.Error(vars, ok)
	}
	if u, vars, p, ok := At(env, s, api.Node{Kind: api.ExpVar, Pos: 8, Text: "x"}); ok || u.Con != "" || vars != nil || p.Kind != 0 {
		t.Error("no pattern")
	}
	if at, e := s.Done(); at != 8 || e != api.ErrArg {
		t.Error(at, e)
	}
	if _, _, _, ok := At(env, s, read(t, "x")); ok {
		t.Error("the state has failed")
	}
	if at, e := s.Done(); at != 8 || e != api.ErrArg {
		t.Error(at, e)
	}
	if u, vars, p, ok := At(env, nil, read(t, "x")); ok || u.Con != "" || u.Var != 0 || vars != nil || p.Kind != 0 {
		t.Error("nil")
	}
}
