package residue

import (
	"math/rand"
	"strings"
	"testing"

	"envoy/api"
	"envoy/entail"
	"envoy/preds"
	"envoy/proofs"
	"envoy/terms"
)

func pred(class, s string) api.Pred {
	t, e := terms.Read(s)
	if e != api.OK {
		panic(s)
	}
	return api.Pred{Class: class, Type: t}
}

// of reads predicates: "C a, D T b".
func of(s string) []api.Pred {
	var l []api.Pred
	for _, p := range strings.Split(s, ", ") {
		if class, at, ok := strings.Cut(p, " "); ok {
			l = append(l, pred(class, at))
		}
	}
	return l
}

var env = api.Env{
	Classes: []api.Class{{Name: "Eq"}, {Name: "Show"}, {Name: "Ord", Supers: []string{"Show", "Eq"}}},
	Insts: []api.Inst{
		{Class: "Eq", Con: "L", N: 1, Preds: of("Eq a")},
		{Class: "Eq", Con: "Int"},
		{Class: "Eq", Con: "P", N: 2, Preds: of("Ord b, Eq a, Eq b")},
		{Class: "Two", Con: "S", N: 1, Preds: of("Two a, Two a")},
	},
}

func TestOne(t *testing.T) {
	for _, c := range []struct {
		given, p, want string
		e              api.Errno
	}{
		{"Ord a", "Eq L b", "Eq b", api.OK},
		{"Ord a", "Eq L a", "", api.OK},
		{"", "Eq a", "Eq a", api.OK},
		{"", "Eq !0", "Eq !0", api.OK},
		{"Ord !0", "Eq !0", "", api.OK},
		{"", "Gone a", "Gone a", api.OK},
		{"", "Eq Int", "", api.OK},
		{"", "Gone Int", "", api.ErrInstance},
		{"Eq L a", "Eq L a", "", api.OK},
		{"Eq a", "Eq P a b", "(Ord b, Eq b)", api.OK},
		{"", "Eq P (P a b) a", "(Ord a, Ord b, Eq a, Eq b)", api.OK},
		{"Eq Bool", "Eq L Bool", "", api.OK},
		{"", "Eq L Bool", "", api.ErrInstance},
		{"Ord L Bool", "Eq P Int (L Bool)", "", api.OK},
	} {
		l, e := One(env, of(c.given), of(c.p)[0])
		if e != c.e || preds.Text(l) != c.want {
			t.Error(c, preds.Text(l), e)
		}
	}
	two := pred("Two", "a")
	for range 99 {
		two.Type = api.Type{Con: "S", Args: []api.Type{two.Type}}
	}
	if l, e := One(env, nil, two); e != api.OK || preds.Text(l) != "Two a" {
		t.Error("2^99 ways", l, e)
	}
}

func TestArg(t *testing.T) {
	bad := api.Pred{Class: "c"}
	if l, e := One(env, nil, bad); e != api.ErrArg || l != nil {
		t.Error(e)
	}
	if _, e := One(env, []api.Pred{bad}, pred("Eq", "Int")); e != api.ErrArg {
		t.Error(e)
	}
	if _, e := One(api.Env{Insts: []api.Inst{{}}}, nil, pred("Eq", "Int")); e != api.ErrArg {
		t.Error(e)
	}
	if l, at, e := All(env, nil, append(of("Eq a"), bad)); e != api.ErrArg || at != 1 || l != nil {
		t.Error(at, e)
	}
	if _, at, e := All(api.Env{Insts: []api.Inst{{}}}, nil, nil); e != api.OK || at != 0 {
		t.Error("of none", at, e)
	}
}

func TestAllProofs(t *testing.T) {
	l, at, e := All(env, of("Ord a"), of("Eq L b, Eq a, Ord c, Eq b, Eq c"))
	if e != api.OK || at != 0 || preds.Text(l) != "(Eq b, Ord c, Eq c)" {
		t.Error(preds.Text(l), at, e)
	}
	if l, at, e := All(env, nil, of("Eq b, Gone Int, Eq Gone")); e != api.ErrInstance || at != 1 || l != nil {
		t.Error(l, at, e)
	}
	l, ps, at, e := Proofs(env, of("Ord a"), of("Eq L b, Eq a, Ord c, Eq b, Eq c"))
	if e != api.OK || at != 0 || preds.Text(l) != "(Eq b, Ord c)" || len(ps) != 5 || proofs.Text(ps[0])+proofs.Text(ps[1])+proofs.Text(ps[4]) != "@0(#1)#0.1#2.1" {
		t.Error(preds.Text(l), ps, at, e)
	}
	if l, ps, at, e := Proofs(env, nil, of("Eq a, Eq Bool")); e != api.ErrInstance || at != 1 || l != nil || ps != nil {
		t.Error(l, ps, at, e)
	}
	if l, ps, at, e := Proofs(env, nil, of("Eq a, Gone a")); e != api.ErrInstance || at != 1 || l != nil || ps != nil {
		t.Error("a class that is not there proves nothing", at, e)
	}
}

// TestFollow: with what is missing all follow.
func TestFollow(t *testing.T) {
	r := rand.New(rand.NewSource(5))
	types := []string{"a", "b", "L a", "L (L b)", "Int", "P a Int", "P (L a) b", "!0", "P Int !1"}
	names := []string{"Eq", "Ord", "Show"}
	found := 0
	for range 3000 {
		var given, l []api.Pred
		for range 3 {
			given = append(given, pred(names[r.Intn(3)], types[r.Intn(len(types))]))
			l = append(l, pred(names[r.Intn(3)], types[r.Intn(len(types))]))
		}
		left, ps, _, e := Proofs(env, given, l)
		if e != api.OK {
			continue
		}
		found++
		have := append(given, left...)
		if !entail.Implies(env, have, l) {
			t.Fatal(given, l, left)
		}
		for i, p := range ps {
			if q, e := proofs.Proves(env, have, p); e != api.OK || !preds.Same(q, l[i]) {
				t.Fatal(given, l, left)
			}
		}
	}
	if found < 300 {
		t.Error(found)
	}
}
