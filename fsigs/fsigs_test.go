package fsigs

import (
	"math"
	"testing"

	"envoy/api"
	"envoy/classenv"
	"envoy/ftypes"
	"envoy/pdecls"
	"envoy/scheme"
)

func envOf(t *testing.T) api.Env {
	t.Helper()
	n, _, e := pdecls.Program("data M a b = N | J a (M b a) Int; class Eq a where { eq :: a -> a -> Bool }; class Show a where { }; " +
		"class (Eq a, Show a) => Ord a where { lt :: a -> a -> Bool; fold :: c -> a -> b -> c }; instance (Eq b, Eq a) => Eq (M a b) where { eq = 1 }; instance Eq Int where { eq = eqInt }; instance Show (a -> b) where { }")
	if e != api.OK {
		t.Fatal(e)
	}
	env, at, e := classenv.Build(n)
	if e != api.OK {
		t.Fatal(at, e)
	}
	return env
}

func TestCon(t *testing.T) {
	env := envOf(t)
	for name, want := range map[string]string{"N": "forall a b. M a b", "J": "forall a b. a -> M b a -> Int -> M a b", "True": "Bool"} {
		if p, ok := Con(env, name); !ok || ftypes.Text(p) != want {
			t.Error(name, ftypes.Text(p), ok)
		}
	}
	if p, ok := Con(env, "Z"); ok || p.Vars != nil || p.Type.Con != "" {
		t.Error(p, ok)
	}
	for _, n := range []int{-1, math.MinInt, math.MaxInt} {
		env.Datas[2].N = n
		if p, ok := Con(env, "N"); !ok || len(p.Vars) != 0 {
			t.Error(n, p, ok)
		}
	}
}

func TestFields(t *testing.T) {
	env := envOf(t)
	for class, want := range map[string]int{"Eq": 1, "Show": 0, "Ord": 4, "Z": -1} {
		if got := Fields(env, class); got != want {
			t.Error(class, got)
		}
	}
	for i, want := range []string{"{Eq} a", "{Show} a", "a -> a -> Bool", "forall b c. b -> a -> c -> b"} {
		if p, ok := Field(env, "Ord", i); !ok || ftypes.Text(p) != want {
			t.Error(i, ftypes.Text(p), ok)
		}
	}
	for _, i := range []int{4, -1, math.MaxInt, math.MinInt} {
		if p, ok := Field(env, "Ord", i); ok || p.Type.Con != "" {
			t.Error(i)
		}
	}
	if _, ok := Field(env, "Z", 0); ok {
		t.Error("no class")
	}
	env.Classes[0].Methods[0].N = -4
	if p, ok := Field(env, "Eq", 0); !ok || p.Vars != nil {
		t.Error(p)
	}
	p, _ := Field(env, "Eq", 0)
	p.Type.Args[0].Var = 9
	if env.Classes[0].Methods[0].Type.Args[0].Var != 0 {
		t.Error("memory is shared")
	}
}

func TestPrim(t *testing.T) {
	for _, name := range []string{"add", "mul", "quot", "rem", "sub"} {
		if p, ok := Prim(name); !ok || ftypes.Text(p) != "Int -> Int -> Int" {
			t.Error(name, p, ok)
		}
	}
	for _, name := range []string{"eqInt", "ltInt"} {
		if p, ok := Prim(name); !ok || ftypes.Text(p) != "Int -> Int -> Bool" {
			t.Error(name, p, ok)
		}
	}
	for _, name := range []string{"", "Add", "eq", "div"} {
		if p, ok := Prim(name); ok || p.Type.Con != "" {
			t.Error(name)
		}
	}
}

func TestMethod(t *testing.T) {
	env := envOf(t)
	for name, want := range map[string]struct {
		class  string
		field  int
		scheme string
	}{
		"eq":   {"Eq", 0, "Eq a => a -> a -> Bool"},
		"lt":   {"Ord", 2, "Ord a => a -> a -> Bool"},
		"fold": {"Ord", 3, "Ord b => a -> b -> c -> a"},
	} {
		class, field, s, ok := Method(env, name)
		if class != want.class || field != want.field || scheme.Text(s) != want.scheme || !ok {
			t.Error(name, class, field, scheme.Text(s), ok)
		}
	}
	if class, field, s, ok := Method(env, "z"); class != "" || field != 0 || s.N != 0 || s.Preds != nil || ok {
		t.Error("no method")
	}
}

func TestInst(t *testing.T) {
	env := envOf(t)
	if Name("Eq", "->") != "@Eq@->" {
		t.Error(Name("Eq", "->"))
	}
	for i, want := range [][2]string{{"@Eq@M", "forall a b. {Eq} b -> {Eq} a -> {Eq} (M a b)"}, {"@Eq@Int", "{Eq} Int"}, {"@Show@->", "forall a b. {Show} (a -> b)"}} {
		x, ok := Inst(env, i)
		if x.Name != want[0] || ftypes.Text(x.Poly) != want[1] || !ok {
			t.Error(i, x.Name, ftypes.Text(x.Poly), ok)
		}
	}
	env.Insts[0].Con = "m"
	for _, i := range []int{0, 3, -1, math.MaxInt, math.MinInt} {
		if x, ok := Inst(env, i); ok || x.Name != "" {
			t.Error(i)
		}
	}
}
