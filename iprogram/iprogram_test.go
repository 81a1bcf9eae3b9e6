package iprogram

import (
	"testing"

	"envoy/api"
	"envoy/fterms"
	"envoy/pdecls"
	"envoy/scheme"
)

func read(t *testing.T, s string) api.Node {
	t.Helper()
	n, at, e := pdecls.Program(s)
	if e != api.OK {
		t.Fatal(s, at, e)
	}
	return n
}

func TestProgram(t *testing.T) {
	u, at, e := Program(read(t, "y = eq x 3; x = add 1 2; class Eq a where { eq :: a -> a -> Bool }; z :: a -> a; z q = q; instance Eq Int where { eq = same }; same = eqInt"))
	if e != api.OK || at != 0 || len(u.Env.Classes) != 1 || len(u.Env.Insts) != 1 || len(u.Env.Datas) != 2 {
		t.Fatal(at, e)
	}
	names := ""
	for _, b := range u.Binds {
		names += b.Name + " "
	}
	if names != "@Eq@Int x y z same " {
		t.Error(names)
	}
	entries := ""
	for _, x := range u.Entries {
		entries += x.Name + " :: " + scheme.Text(x.Scheme) + "; "
	}
	if entries != "x :: Int; y :: Bool; z :: a -> a; same :: Int -> Int -> Bool; " {
		t.Error(entries)
	}
	s, b, ok := Find(u, "x")
	if !ok || scheme.Text(s) != "Int" || fterms.Text(b.Kids[0]) != "((add 1) 2)" {
		t.Error(s, b, ok)
	}
	b.Kids[0].Kids[0].Kind = 0
	if _, c, _ := Find(u, "x"); fterms.Text(c.Kids[0]) != "((add 1) 2)" {
		t.Error("memory is shared")
	}
	for _, name := range []string{"@Eq@Int", "eq", "add", ""} {
		if s, b, ok := Find(u, name); ok || s.N != 0 || b.Kind != 0 {
			t.Error(name)
		}
	}
}

func TestFindTheLast(t *testing.T) {
	integer := api.Scheme{Type: api.Type{Con: "Int"}}
	u := api.Unit{
		Entries: []api.Entry{{Name: "x"}, {Name: "x", Scheme: integer}, {Name: "y"}},
		Binds:   []api.Term{{Kind: api.TermBind, Name: "x"}, {Kind: api.TermBind, Name: "x", N: 7}, {Kind: api.TermVar, Name: "y"}, {Kind: api.TermVar, Name: "x"}},
	}
	if s, b, ok := Find(u, "x"); !ok || scheme.Text(s) != "Int" || b.N != 7 {
		t.Error(s, b, ok)
	}
	if _, _, ok := Find(u, "y"); ok {
		t.Error("a name without a TermBind")
	}
	if _, _, ok := Find(api.Unit{}, "x"); ok {
		t.Error("of none")
	}
}

func TestRefused(t *testing.T) {
	for _, c := range []struct {
		s  string
		at int
		e  api.Errno
	}{
		{"x = y; data D = D Z", 18, api.ErrUnknown},
		{"x = y", 4, api.ErrUnknown},
		{"x = True True; y = z", 19, api.ErrUnknown},
		{"x = True True; class C a where { m :: a }; instance C Int where { m = z }", 4, api.ErrMismatch},
		{"x = True; class C a where { m :: a }; instance C Int where { m = x }", 65, api.ErrMismatch},
		{"class C a => C a where { }", 0, api.ErrCycle},
		{"m = 1; class C a where { m :: a }", 0, api.ErrTwice},
	} {
		u, at, e := Program(read(t, c.s))
		if at != c.at || e != c.e || u.Entries != nil || u.Binds != nil || u.Env.Datas != nil {
			t.Error(c.s, at, e)
		}
	}
	if _, at, e := Program(api.Node{Kind: api.BindNode, Pos: 4}); at != 4 || e != api.ErrArg {
		t.Error(at, e)
	}
}
