package reduce

import (
	"math/rand"
	"strconv"
	"strings"
	"testing"

	"envoy/api"
	"envoy/entail"
	"envoy/preds"
	"envoy/proofs"
	"envoy/terms"
)

func pred(class, s string) api.Pred {
	t, e := terms.Read(s)
	if e != api.OK {
		panic(s)
	}
	return api.Pred{Class: class, Type: t}
}

// of reads predicates: "C a, D T b".
func of(s string) []api.Pred {
	var l []api.Pred
	for _, p := range strings.Split(s, ", ") {
		if class, at, ok := strings.Cut(p, " "); ok {
			l = append(l, pred(class, at))
		}
	}
	return l
}

var env = api.Env{
	Classes: []api.Class{{Name: "Eq"}, {Name: "Show"}, {Name: "Ord", Supers: []string{"Show", "Eq"}}, {Name: "Num", Supers: []string{"Ord"}}},
	Insts: []api.Inst{
		{Class: "Eq", Con: "L", N: 1, Preds: of("Eq a")},
		{Class: "Eq", Con: "Int"},
		{Class: "Eq", Con: "P", N: 2, Preds: of("Ord b, Eq a, Eq b")},
		{Class: "Two", Con: "S", N: 1, Preds: of("Two a, Two a")},
		{Class: "Half", Con: "P", N: 2, Preds: of("Eq a, Gone b")},
	},
}

func TestHead(t *testing.T) {
	for p, want := range map[string]string{
		"Eq a":            "Eq a",
		"Eq !3":           "Eq !3",
		"Gone a":          "Gone a",
		"Eq Int":          "",
		"Eq L (L b)":      "Eq b",
		"Eq P a b":        "(Ord b, Eq a, Eq b)",
		"Eq P a (L a)":    "no",
		"Eq P (L Int) a":  "(Ord a, Eq a)",
		"Eq P (P a b) !0": "(Ord !0, Ord b, Eq a, Eq b, Eq !0)",
		"Gone Int":        "no",
		"Half P a Int":    "no",
		"Eq Int a":        "no",
	} {
		l, e := Head(env, of(p)[0])
		if want == "no" {
			if e != api.ErrInstance || l != nil {
				t.Error(p, l, e)
			}
			continue
		}
		if got := preds.Text(l); e != api.OK || got != want {
			t.Errorf("%s: %s %d", p, got, e)
		}
	}
	two := pred("Two", "a")
	for range 99 {
		two.Type = api.Type{Con: "S", Args: []api.Type{two.Type}}
	}
	if l, e := Head(env, two); e != api.OK || preds.Text(l) != "Two a" {
		t.Error("2^99 ways", l, e)
	}
}

func TestHeadRefused(t *testing.T) {
	bad := []api.Env{{Classes: []api.Class{{Name: "A", Supers: []string{"A"}}}}, {Insts: []api.Inst{{}}}}
	for _, x := range bad {
		if l, e := Head(x, pred("Eq", "a")); e != api.ErrArg || l != nil {
			t.Error(e)
		}
		if _, _, _, e := Reduce(x, of("Eq a")); e != api.ErrArg {
			t.Error(e)
		}
		if _, _, e := Heads(x, nil); e != api.OK {
			t.Error("of none", e)
		}
	}
	if _, e := Head(env, api.Pred{Class: "c"}); e != api.ErrArg {
		t.Error(e)
	}
	// More than MaxNodes heads.
	wide := api.Env{}
	x := api.Inst{Class: "W", Con: "T", N: 100}
	for c := range 41 {
		for v := range 100 {
			x.Preds = append(x.Preds, api.Pred{Class: "C" + strconv.Itoa(c), Type: api.Type{Var: v}})
		}
	}
	wide.Insts = []api.Inst{x}
	p := api.Pred{Class: "W", Type: api.Type{Con: "T"}}
	for v := range 100 {
		p.Type.Args = append(p.Type.Args, api.Type{Var: v})
	}
	if l, e := Head(wide, p); e != api.ErrLimit || l != nil {
		t.Error(len(l), e)
	}
	p.Type.Args[99].Var, p.Type.Args[98].Var = 0, 0
	if l, e := Head(wide, p); e != api.OK || len(l) != 41*98 {
		t.Error(len(l), e)
	}
}

func TestHeads(t *testing.T) {
	if l, at, e := Heads(env, of("Eq L a, Ord b, Eq a, Eq Int")); e != api.OK || at != 0 || preds.Text(l) != "(Eq a, Ord b)" {
		t.Error(l, at, e)
	}
	if l, at, e := Heads(env, of("Eq L a, Gone Int, Eq b")); e != api.ErrInstance || at != 1 || l != nil {
		t.Error(l, at, e)
	}
	if l, at, e := Heads(env, append(of("Eq a"), api.Pred{Class: "c"})); e != api.ErrArg || at != 1 || l != nil {
		t.Error(l, at, e)
	}
}

func TestSimple(t *testing.T) {
	for in, want := range map[string]string{
		"Ord a, Eq L a, Eq a":       "(Ord a, Eq (L a))",
		"Eq a, Ord a":               "Ord a",
		"Eq a, Ord b":               "(Eq a, Ord b)",
		"Eq a, Show a, Num a, Eq a": "Num a",
		"Eq a, Show a":              "(Eq a, Show a)",
		"Gone a, Gone a, Gone b":    "(Gone a, Gone b)",
		"":                          "",
	} {
		if got := preds.Text(Simple(env, of(in))); got != want {
			t.Errorf("%s: %s", in, got)
		}
	}
	bad := api.Env{Classes: []api.Class{{Name: "Eq", Supers: []string{"Ord"}}, {Name: "Ord", Supers: []string{"Eq"}}}}
	if got := preds.Text(Simple(bad, of("Eq a, Ord a, Eq a"))); got != "(Eq a, Ord a)" {
		t.Error(got)
	}
}

func TestReduce(t *testing.T) {
	l := of("Ord a, Eq L a, Eq a")
	got, ps, at, e := Reduce(env, l)
	if e != api.OK || at != 0 || preds.Text(got) != "Ord a" || len(ps) != 3 || proofs.Text(ps[1]) != "@0(#0.1)" {
		t.Error(got, ps, at, e)
	}
	if got, ps, at, e := Reduce(env, of("Eq a, Eq L Bool")); e != api.ErrInstance || at != 1 || got != nil || ps != nil {
		t.Error(got, ps, at, e)
	}
	// A head of a class that is not there has no proof by itself.
	if _, _, at, e := Reduce(env, of("Eq a, Gone a")); e != api.ErrInstance || at != 1 {
		t.Error(at, e)
	}
}

// TestFollows: what is reduced follows from what is told, and that from it.
func TestFollows(t *testing.T) {
	r := rand.New(rand.NewSource(3))
	types := []string{"a", "b", "L a", "L (L b)", "Int", "P a Int", "P (L a) b", "!0", "P Int !1"}
	names := []string{"Eq", "Ord", "Show", "Num"}
	reduced := 0
	for range 3000 {
		var l []api.Pred
		for range 1 + r.Intn(4) {
			l = append(l, pred(names[r.Intn(len(names))], types[r.Intn(len(types))]))
		}
		got, ps, _, e := Reduce(env, l)
		if e != api.OK {
			continue
		}
		reduced++
		for i, p := range ps {
			if q, e := proofs.Proves(env, got, p); e != api.OK || !preds.Same(q, l[i]) {
				t.Fatal(l, got, i)
			}
		}
		if !entail.Implies(env, got, l) {
			t.Fatal(l, got)
		}
	}
	if reduced < 300 {
		t.Error(reduced)
	}
}

func TestMemoryIsNew(t *testing.T) {
	l := of("Eq !0, Eq L a")
	got, _, _ := Heads(env, l)
	got[0].Type.Con, got[1].Type.Var = "!9", 9
	if preds.Text(l) != "(Eq !0, Eq (L a))" {
		t.Error("memory is shared")
	}
}
