package evterms

import (
	"math"
	"strings"
	"testing"

	"envoy/api"
	"envoy/entail"
	"envoy/fcheck"
	"envoy/fsigs"
	"envoy/fterms"
	"envoy/ftypes"
	"envoy/preds"
	"envoy/terms"
)

func pred(class, s string) api.Pred {
	t, e := terms.Read(s)
	if e != api.OK {
		panic(s)
	}
	return api.Pred{Class: class, Type: t}
}

// of reads predicates: "C a, D T b".
func of(s string) []api.Pred {
	var l []api.Pred
	for _, p := range strings.Split(s, ", ") {
		if class, at, ok := strings.Cut(p, " "); ok {
			l = append(l, pred(class, at))
		}
	}
	return l
}

var env = api.Env{
	Classes: []api.Class{{Name: "Eq"}, {Name: "Show"}, {Name: "Ord", Supers: []string{"Show", "Eq"}}},
	Insts: []api.Inst{
		{Class: "Eq", Con: "L", N: 1, Preds: of("Eq a")},
		{Class: "Eq", Con: "Int"},
		{Class: "Eq", Con: "P", N: 2, Preds: of("Ord b, Eq a")},
		{Class: "Two", Con: "S", N: 1, Preds: of("Two a, Two a")},
	},
}

func TestTerm(t *testing.T) {
	given := of("Show b, Ord a")
	for p, want := range map[string]string{
		"Show b":         "#0",
		"Eq a":           "(#1.Ord.1)",
		"Eq L a":         "((@Eq@L [a]) (#1.Ord.1))",
		"Eq Int":         "@Eq@Int",
		"Eq P (L Int) a": "(((@Eq@P [L Int, a]) #1) ((@Eq@L [Int]) @Eq@Int))",
		"Show a":         "(#1.Ord.0)",
	} {
		q := of(p)[0]
		proof, e := entail.By(env, given, q)
		if e != api.OK {
			t.Fatal(p, e)
		}
		got, e := Term(env, given, Names(2, 0), proof)
		if e != api.OK || fterms.Text(got) != want {
			t.Error(p, fterms.Text(got), e)
		}
		// The term's type is the record of what is proved.
		var l []api.Typed
		for i := range env.Insts {
			x, _ := fsigs.Inst(env, i)
			l = append(l, x)
		}
		for i, d := range Types(given) {
			l = append(l, api.Typed{Name: Names(1, i)[0].Name, Poly: api.Poly{Type: d}})
		}
		u, e := fcheck.Type(env, l, got)
		if e != api.OK || !terms.Same(u.Type, ftypes.Dict(q.Class, q.Type)) || len(u.Vars) > 0 {
			t.Error(p, ftypes.Text(u), e)
		}
	}
}

func TestTermRefused(t *testing.T) {
	given := of("Ord a")
	good := api.Proof{Kind: api.ProofSuper, N: 1, Kids: []api.Proof{{Kind: api.ProofGiven}}}
	for i, c := range []struct {
		names []api.Term
		p     api.Proof
		e     api.Errno
	}{
		{nil, good, api.ErrArg},
		{Names(2, 0), good, api.ErrArg},
		{Names(1, 0), api.Proof{}, api.ErrArg},
		{Names(1, 0), api.Proof{Kind: api.ProofGiven, N: 1}, api.ErrArg},
		{Names(1, 0), api.Proof{Kind: api.ProofSuper, N: 2, Kids: good.Kids}, api.ErrArg},
		{[]api.Term{{}}, good, api.ErrLimit},
		{Names(1, 0), good, api.OK},
	} {
		if got, e := Term(env, given, c.names, c.p); e != c.e || (e != api.OK) != (got.Kind == 0) {
			t.Error(i, got, e)
		}
	}
	two := pred("Two", "a")
	for range 9 {
		two.Type = api.Type{Con: "S", Args: []api.Type{two.Type}}
	}
	have := of("Two a")
	x := env
	x.Classes = append([]api.Class{{Name: "Two"}}, env.Classes...)
	proof, e := entail.By(x, have, two)
	if e != api.OK {
		t.Fatal(e)
	}
	// 511 steps of four nodes, and 512 of what is given.
	if got, e := Term(x, have, Names(1, 7), proof); e != api.OK || fterms.Size(got) != 511*4+512 {
		t.Error(fterms.Size(got), e)
	}
	great := api.Term{Kind: api.TermAll, Kids: Names(1, 0)}
	for range 3 {
		great = api.Term{Kind: api.TermAll, Kids: []api.Term{great}}
	}
	if got, e := Term(x, have, []api.Term{great}, proof); e != api.ErrLimit || got.Kind != 0 {
		t.Error(e)
	}
}

func TestAll(t *testing.T) {
	given := of("Show b, Ord a")
	l, at, e := All(env, given, Names(2, 5), of("Eq a, Show b, Eq L Int"))
	if e != api.OK || at != 0 || len(l) != 3 || fterms.Text(l[0])+fterms.Text(l[1])+fterms.Text(l[2]) != "(#6.Ord.1)#5((@Eq@L [Int]) @Eq@Int)" {
		t.Error(l, at, e)
	}
	if l, at, e := All(env, given, Names(2, 5), of("Eq a, Eq b, Eq c")); l != nil || at != 1 || e != api.ErrInstance {
		t.Error(l, at, e)
	}
	if l, at, e := All(env, given, Names(1, 5), of("Eq a, Eq b")); l != nil || at != 0 || e != api.ErrArg {
		t.Error("the first one's error", l, at, e)
	}
	if l, at, e := All(env, given, Names(1, 5), of("Eq b, Eq a")); l != nil || at != 0 || e != api.ErrInstance {
		t.Error(l, at, e)
	}
	if l, at, e := All(env, given, nil, nil); len(l) != 0 || at != 0 || e != api.OK {
		t.Error(l, at, e)
	}
	if l, at, e := All(env, given, []api.Term{{}, Names(1, 0)[0]}, of("Eq a, Show b, Eq c")); l != nil || at != 1 || e != api.ErrLimit {
		t.Error(l, at, e)
	}
}

func TestNamesTypes(t *testing.T) {
	l := Names(3, 9)
	if len(l) != 3 || l[0].Name != "#9" || l[2].Name != "#11" || l[0].Kind != api.TermVar {
		t.Error(l)
	}
	if len(Names(4096, 1<<40)) != 4096 {
		t.Error("as many as may be")
	}
	for _, c := range [][2]int{{0, 0}, {-1, 0}, {4097, 0}, {1, -1}, {1, 1<<40 + 1}, {math.MaxInt, math.MaxInt}, {math.MinInt, math.MinInt}} {
		if Names(c[0], c[1]) != nil {
			t.Error(c)
		}
	}
	ps := of("Eq L a, Ord b")
	ts := Types(ps)
	if len(ts) != 2 || ftypes.Text(api.Poly{Type: ts[0]}) != "{Eq} (L a)" || ts[1].Con != "{Ord}" {
		t.Error(ts)
	}
	ts[0].Args[0].Args[0].Var = 9
	if preds.Text(ps) != "(Eq (L a), Ord b)" {
		t.Error("memory is shared")
	}
}
