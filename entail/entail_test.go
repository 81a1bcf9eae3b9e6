package entail

import (
	"math/rand"
	"strings"
	"testing"

	"envoy/api"
	"envoy/preds"
	"envoy/proofs"
	"envoy/terms"
)

func pred(class, s string) api.Pred {
	t, e := terms.Read(s)
	if e != api.OK {
		panic(s)
	}
	return api.Pred{Class: class, Type: t}
}

// of reads predicates: "C a, D T b".
func of(s string) []api.Pred {
	var l []api.Pred
	for _, p := range strings.Split(s, ", ") {
		if class, at, ok := strings.Cut(p, " "); ok {
			l = append(l, pred(class, at))
		}
	}
	return l
}

var classes = []api.Class{{Name: "Eq"}, {Name: "Show"}, {Name: "Ord", Supers: []string{"Show", "Eq"}}, {Name: "Num", Supers: []string{"Ord"}}}

var env = api.Env{Classes: classes, Insts: []api.Inst{
	{Class: "Eq", Con: "L", N: 1, Preds: of("Eq a")},
	{Class: "Eq", Con: "Int"},
	{Class: "Ord", Con: "L", N: 1, Preds: of("Ord a")},
	{Class: "Show", Con: "L", N: 1, Preds: of("Show a")},
	{Class: "Eq", Con: "P", N: 2, Preds: of("Eq a, Ord b")},
	{Class: "Two", Con: "S", N: 1, Preds: of("Two a, Two a")},
	{Class: "Two", Con: "Int"},
}}

func TestBy(t *testing.T) {
	for _, c := range []struct {
		given, p, want string
		e              api.Errno
	}{
		{"", "Eq L Int", "@0(@1)", api.OK},
		{"Ord a", "Eq a", "#0.1", api.OK},
		{"Eq b, Num a", "Eq a", "#1.0.1", api.OK},
		{"Num a, Eq a", "Eq a", "#0.0.1", api.OK},
		{"Eq a, Eq a", "Eq a", "#0", api.OK},
		{"Ord a", "Eq L (L a)", "@0(@0(#0.1))", api.OK},
		{"Ord L Int", "Eq L Int", "#0.1", api.OK},
		{"Eq Int", "Eq L Int", "@0(#0)", api.OK},
		{"Ord b, Eq a", "Eq P a b", "@4(#1,#0)", api.OK},
		{"", "Eq a", "", api.ErrInstance},
		{"Eq a", "Ord a", "", api.ErrInstance},
		{"", "Eq !0", "", api.ErrInstance},
		{"Ord !0", "Eq !0", "#0.1", api.OK},
		{"", "Ord Int", "", api.ErrInstance},
		{"", "Eq Int a", "", api.ErrInstance},
		{"Nobody a", "Nobody a", "", api.ErrInstance},
		{"", "Two S (S Int)", "@5(@5(@6,@6),@5(@6,@6))", api.OK},
	} {
		p := of(c.p)[0]
		proof, e := By(env, of(c.given), p)
		if e != c.e {
			t.Errorf("%s from %s: %d", c.p, c.given, e)
			continue
		}
		if e != api.OK {
			if proof.Kind != 0 {
				t.Error("a proof beside an error")
			}
			continue
		}
		if got := proofs.Text(proof); got != c.want {
			t.Errorf("%s from %s: %s", c.p, c.given, got)
		}
		if q, e := proofs.Proves(env, of(c.given), proof); e != api.OK || !preds.Same(q, p) {
			t.Errorf("%s from %s: it proves %v %d", c.p, c.given, q, e)
		}
	}
}

func TestArg(t *testing.T) {
	eq := pred("Eq", "Int")
	bad := api.Pred{Class: "c"}
	for i, x := range []api.Env{
		{Classes: []api.Class{{Name: "A", Supers: []string{"A"}}}, Insts: env.Insts},
		{Classes: classes, Insts: append([]api.Inst{{Class: "Eq", Con: "t"}}, env.Insts...)},
	} {
		if p, e := By(x, nil, eq); e != api.ErrArg || p.Kind != 0 {
			t.Error("not sound", i, e)
		}
		if l, at, e := All(x, nil, []api.Pred{eq, eq}); e != api.ErrArg || at != 0 || l != nil {
			t.Error("not sound", i, e)
		}
		if l, at, e := All(x, nil, nil); e != api.OK || at != 0 || len(l) != 0 {
			t.Error("of none", e)
		}
	}
	if _, e := By(env, []api.Pred{eq, bad}, eq); e != api.ErrArg {
		t.Error(e)
	}
	if _, e := By(env, nil, bad); e != api.ErrArg {
		t.Error(e)
	}
}

func TestLimit(t *testing.T) {
	p := pred("Two", "Int")
	for range 10 {
		p.Type = api.Type{Con: "S", Args: []api.Type{p.Type}}
	}
	if proof, e := By(env, nil, p); e != api.OK || proofs.Size(proof) != 2047 {
		t.Error(e)
	}
	p.Type = api.Type{Con: "S", Args: []api.Type{p.Type}}
	if proof, e := By(env, nil, p); e != api.OK || proofs.Size(proof) != 4095 {
		t.Error(e)
	}
	for range 80 {
		p.Type = api.Type{Con: "S", Args: []api.Type{p.Type}}
		if proof, e := By(env, nil, p); e != api.ErrLimit || proof.Kind != 0 {
			t.Error(e)
		}
	}
	// The limit is met as soon as there is too much, ahead of what is missing.
	late := env
	late.Insts = append([]api.Inst{{Class: "Late", Con: "S", N: 1, Preds: of("Two a, Two a, Gone a")}}, env.Insts...)
	if _, e := By(late, nil, api.Pred{Class: "Late", Type: p.Type}); e != api.ErrLimit {
		t.Error(e)
	}
	late.Insts[0].Preds = of("Gone a, Two a")
	if _, e := By(late, nil, api.Pred{Class: "Late", Type: p.Type}); e != api.ErrInstance {
		t.Error(e)
	}
}

func TestAllSuperImplies(t *testing.T) {
	given := of("Num a, Eq b")
	l, at, e := All(env, given, of("Eq a, Eq L b, Eq b"))
	if e != api.OK || at != 0 || len(l) != 3 || proofs.Text(l[0])+proofs.Text(l[1])+proofs.Text(l[2]) != "#0.0.1@0(#1)#1" {
		t.Error(l, at, e)
	}
	if l, at, e := All(env, given, of("Eq a, Eq c, Ord b")); l != nil || at != 1 || e != api.ErrInstance {
		t.Error(l, at, e)
	}
	if !Implies(env, given, of("Eq a, Ord a")) || Implies(env, given, of("Ord b")) || !Implies(env, nil, nil) {
		t.Error("Implies")
	}
	if p, ok := Super(env, given, pred("Show", "a")); !ok || proofs.Text(p) != "#0.0.0" {
		t.Error(p, ok)
	}
	if p, ok := Super(env, given, pred("Show", "b")); ok || p.Kind != 0 {
		t.Error(p, ok)
	}
	if _, ok := Super(env, given, pred("Eq", "L b")); ok {
		t.Error("Super takes no instance")
	}
}

// TestSound: what By tells proves just that; what follows from some follows from more.
func TestSound(t *testing.T) {
	r := rand.New(rand.NewSource(2))
	types := []string{"a", "b", "L a", "L (L b)", "Int", "L Int", "P a Int", "P (L a) b", "!0", "S (S Int)"}
	names := []string{"Eq", "Ord", "Show", "Num", "Two"}
	any := func() api.Pred { return pred(names[r.Intn(len(names))], types[r.Intn(len(types))]) }
	proved := 0
	for range 5000 {
		given := []api.Pred{any(), any()}
		p := any()
		proof, e := By(env, given, p)
		if e != api.OK {
			continue
		}
		proved++
		if q, e := proofs.Proves(env, given, proof); e != api.OK || !preds.Same(p, q) {
			t.Fatal(given, p, q, e)
		}
		if !Implies(env, append(given, any()), []api.Pred{p}) {
			t.Fatal("not from more", given, p)
		}
	}
	if proved < 200 {
		t.Error(proved)
	}
}

// TestFollows: what follows from what is given follows from what that follows from.
func TestFollows(t *testing.T) {
	r := rand.New(rand.NewSource(9))
	types := []string{"a", "b", "L a", "L (L b)", "Int", "L Int", "P a Int", "P (L a) b", "!0"}
	names := []string{"Eq", "Ord", "Show", "Num"}
	some := func() []api.Pred {
		var l []api.Pred
		for range 1 + r.Intn(3) {
			l = append(l, pred(names[r.Intn(len(names))], types[r.Intn(len(types))]))
		}
		return l
	}
	found := 0
	for range 30000 {
		first, second, third := some(), some(), some()
		if !Implies(env, first, second) || !Implies(env, second, third) {
			continue
		}
		found++
		if !Implies(env, first, third) {
			t.Fatal(first, second, third)
		}
	}
	if found < 30 {
		t.Error(found)
	}
}

func TestMemoryIsNew(t *testing.T) {
	p := pred("Eq", "L (L Int)")
	proof, _ := By(env, nil, p)
	proof.Types[0].Args[0].Con = "X"
	if terms.Text(p.Type) != "L (L Int)" || terms.Text(proof.Kids[0].Types[0]) != "Int" {
		t.Error("memory is shared")
	}
}
