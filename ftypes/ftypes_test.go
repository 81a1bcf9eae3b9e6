package ftypes

import (
	"math"
	"slices"
	"testing"

	"envoy/api"
	"envoy/terms"
)

func read(s string) api.Type {
	t, e := terms.Read(s)
	if e != api.OK {
		panic(s)
	}
	return t
}

func c(con string, args ...api.Type) api.Type { return api.Type{Con: con, Args: args} }

func v(n int) api.Type { return api.Type{Var: n} }

func TestDictClass(t *testing.T) {
	x := read("T a")
	d := Dict("Eq", x)
	if Text(api.Poly{Type: d}) != "{Eq} (T a)" {
		t.Error(d)
	}
	d.Args[0].Args[0].Var = 9
	if x.Args[0].Var != 0 {
		t.Error("Dict shares")
	}
	class, at, ok := Class(d)
	if class != "Eq" || terms.Text(at) != "T j" || !ok {
		t.Error(class, at, ok)
	}
	at.Args[0].Var = 4
	if d.Args[0].Args[0].Var != 9 {
		t.Error("Class shares")
	}
	for i, x := range []api.Type{v(0), read("T a"), c("{Eq}"), c("{Eq}", v(0), v(0)), c("{eq}", v(0)), c("{}", v(0)), c("{Eq", v(0)), c("Eq}", v(0)), c("{", v(0)), c("", v(0)), {Con: "{Eq}", Var: 1, Args: []api.Type{v(0)}}} {
		if class, at, ok := Class(x); class != "" || at.Con != "" || ok {
			t.Error(i)
		}
	}
}

func deep(n int) api.Type {
	t := v(0)
	for i := range n - 1 {
		t = c([]string{"T", "{C}"}[i%2], t)
	}
	return t
}

func wide(n int) api.Type {
	t := c("T")
	for range n - 1 {
		t.Args = append(t.Args, v(1))
	}
	return t
}

func TestLegal(t *testing.T) {
	for i, x := range []api.Type{v(0), v(math.MinInt), read("T a -> b"), Dict("C", v(0)), c("->", Dict("C", v(0)), c("T", Dict("D", Dict("E", c("!0"))))), c("!0"), deep(100), wide(4096)} {
		if !Legal(x) {
			t.Error("good", i)
		}
	}
	for i, x := range []api.Type{{Args: []api.Type{v(0)}}, c("t"), c("->", v(0)), c("->", v(0), v(0), v(0)), c("!0", v(0)), c("!01"), c("{C}"), c("{C}", v(0), v(0)), c("{c}", v(0)), {Con: "T", Var: 1}, {Con: "{C}", Var: 1, Args: []api.Type{v(0)}}, c("T", c("{}", v(0))), deep(101), wide(4097), {Con: "->", Var: 1, Args: []api.Type{v(0), v(0)}}} {
		if Legal(x) {
			t.Error("bad", i)
		}
	}
}

func text(t api.Type) string { return Text(api.Poly{Type: t}) }

func TestPut(t *testing.T) {
	x := c("->", Dict("C", v(0)), read("a -> b -> c"))
	y := Put(x, []int{0, 2, 0, 1}, []api.Type{read("T b"), read("a"), read("U")})
	if text(y) != "{C} (T b) -> T b -> b -> a" {
		t.Error(text(y))
	}
	y.Args[0].Args[0].Args[0].Var = 9
	if text(y) != "{C} (T j) -> T b -> b -> a" || text(x) != "{C} a -> a -> b -> c" {
		t.Error("memory is shared")
	}
	odd := api.Type{Var: 0, Args: []api.Type{v(0)}}
	if got := Put(odd, []int{0}, []api.Type{read("T")}); got.Con != "T" || len(got.Args) != 0 {
		t.Error("what stands below goes with it", got)
	}
	if got := Put(odd, []int{1}, []api.Type{read("T")}); len(got.Args) != 1 || got.Args[0].Var != 0 {
		t.Error("or stays", got)
	}
	odd.Var = 5
	if got := Put(odd, []int{0}, []api.Type{read("T")}); got.Args[0].Con != "" {
		t.Error("as it is", got)
	}
	if got := Put(read("a b"[:1]), nil, nil); got.Var != 0 {
		t.Error(got)
	}
	// A variable in its own place changes nothing.
	if got := Put(x, []int{0, 1}, []api.Type{v(0), v(1)}); !terms.Same(got, x) {
		t.Error(got)
	}
}

func TestFreeOf(t *testing.T) {
	if got := Free(api.Poly{Vars: []int{1, 1}, Type: read("T c b ?0 c")}); !slices.Equal(got, []int{2, -1}) {
		t.Error(got)
	}
	s := api.Scheme{N: 2, Preds: []api.Pred{{Class: "C", Type: v(1)}, {Class: "D", Type: read("T a")}}, Type: read("a -> b -> ?0")}
	p := Of(s)
	if got := Text(p); got != "forall a b. {C} b -> {D} (T a) -> a -> b -> ?0" {
		t.Error(got)
	}
	if got := Text(Of(api.Scheme{N: 1, Preds: []api.Pred{{Class: "C"}}, Type: v(0)})); got != "forall a. {C} a -> a" {
		t.Error(got)
	}
	if p := Of(api.Scheme{N: 2, Type: v(0)}); p.Vars != nil || p.Type.Con != "" || p.Type.Var != 0 {
		t.Error(p)
	}
	p.Type.Args[0].Args[0].Var = 7
	if s.Preds[0].Type.Var != 1 {
		t.Error("memory is shared")
	}
}

func poly(s string, vars ...int) api.Poly { return api.Poly{Vars: vars, Type: read(s)} }

func TestAlike(t *testing.T) {
	for i, c := range []struct {
		a, b api.Poly
		want bool
	}{
		{poly("a -> b", 0, 1), poly("b -> a", 1, 0), true},
		{poly("a -> b", 0, 1), poly("b -> a", 0, 1), false},
		{poly("a -> b", 0, 1), poly("e -> f", 4, 5), true},
		{poly("a -> c", 0), poly("b -> c", 1), true},
		{poly("a -> c", 0), poly("b -> d", 1), false},
		{poly("a", 0), poly("a"), false},
		{poly("a"), poly("a"), true},
		{poly("a"), poly("b"), false},
		{poly("a", 0), poly("a", 1), false},
		{poly("T", 0), poly("T", 1), true},
		{poly("a", 0, 0), poly("a", 0, 0), false},
		{poly("b", 0), poly("b", 2), true},
		{poly("b", 0), poly("b", 1), false},
		{poly("a -> b", 0), poly("b -> b", 1), false},
	} {
		if Alike(c.a, c.b) != c.want || Alike(c.b, c.a) != c.want {
			t.Error(i)
		}
	}
}

func TestText(t *testing.T) {
	for want, p := range map[string]api.Poly{
		"a":                                    {Type: v(0)},
		"forall ?0 b1. (a -> b) -> T (U a) !0": {Vars: []int{-1, 27}, Type: c("->", read("a -> b"), c("T", read("U a"), c("!0")))},
		"T ({C} a) -> {D} (a -> b)":            {Type: c("->", c("T", Dict("C", v(0))), Dict("D", read("a -> b")))},
		"":                                     {Vars: []int{0}, Type: c("t")},
	} {
		if got := Text(p); got != want {
			t.Errorf("%q, not %q", got, want)
		}
	}
}
