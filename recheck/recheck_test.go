package recheck

import (
	"testing"

	"envoy/api"
	"envoy/compile"
	"envoy/ftypes"
)

func unit(t *testing.T, s string) api.Unit {
	t.Helper()
	u, at, e := compile.Compile(s)
	if e != api.OK {
		t.Fatal(s, at, e)
	}
	return u
}

const text = "class Eq a where { eq :: a -> a -> Bool }; instance Eq Int where { eq = eqInt }; x = 1; f a b = if eq a b then a else b; y = f x 2"

func TestTaken(t *testing.T) {
	u := unit(t, text)
	if at, e := Unit(u); at != 0 || e != api.OK {
		t.Error(at, e)
	}
	for i := range u.Entries {
		if e := Entry(u, i); e != api.OK {
			t.Error(i, e)
		}
	}
	got := ""
	for _, x := range Names(u) {
		got += x.Name + " : " + ftypes.Text(x.Poly) + "; "
	}
	if got != "@Eq@Int : {Eq} Int; x : Int; f : forall a. {Eq} a -> a -> a -> a; y : Int; " {
		t.Error(got)
	}
}

func TestUnit(t *testing.T) {
	u := unit(t, text)
	u.Binds[2].Types[0].Args[1].Args[0] = api.Type{Con: "Int"}
	if at, e := Unit(u); at != 2 || e != api.ErrMismatch {
		t.Error(at, e)
	}
	u.Binds[3].Kids[0] = api.Term{}
	if at, e := Unit(u); at != 3 || e != api.ErrArg {
		t.Error(at, e)
	}
	if at, e := Unit(api.Unit{}); at != 0 || e != api.OK {
		t.Error(at, e)
	}
}

func TestEntry(t *testing.T) {
	u := unit(t, text)
	for _, i := range []int{-1, 3, 1 << 62} {
		if e := Entry(u, i); e != api.ErrArg {
			t.Error(i, e)
		}
	}
	// The last TermBind of a name counts.
	u.Binds = append(u.Binds, api.Term{Kind: api.TermBind, Name: "x", Types: []api.Type{{Con: "Bool"}}})
	if e := Entry(u, 0); e != api.ErrMismatch {
		t.Error(e)
	}
	u.Binds = append(u.Binds, api.Term{Kind: api.TermBind, Name: "x", Types: []api.Type{{Con: "Int"}}}, api.Term{Kind: api.TermBind, Name: "x"}, api.Term{Kind: api.TermVar, Name: "x", Types: []api.Type{{}}})
	if e := Entry(u, 0); e != api.OK {
		t.Error(e)
	}
	if n := len(Names(u)); n != 6 {
		t.Error(n)
	}
	u.Entries[1].Scheme.N = 2
	if e := Entry(u, 1); e != api.ErrMismatch {
		t.Error("a scheme that may not be", e)
	}
	u.Entries[2].Name = "z"
	if e := Entry(u, 2); e != api.ErrUnknown {
		t.Error(e)
	}
}

func TestMemoryIsNew(t *testing.T) {
	u := unit(t, text)
	l := Names(u)
	l[2].Poly.Vars[0], l[2].Poly.Type.Con = 99, "X"
	if e := Entry(u, 1); e != api.OK {
		t.Error("memory is shared", e)
	}
}
