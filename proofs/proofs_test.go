package proofs

import (
	"math"
	"slices"
	"testing"

	"envoy/api"
	"envoy/preds"
	"envoy/terms"
)

func read(s string) api.Type {
	t, e := terms.Read(s)
	if e != api.OK {
		panic(s)
	}
	return t
}

func pred(class, s string) api.Pred { return api.Pred{Class: class, Type: read(s)} }

func given(n int) api.Proof { return api.Proof{Kind: api.ProofGiven, N: n} }

func super(n int, kid api.Proof) api.Proof {
	return api.Proof{Kind: api.ProofSuper, N: n, Kids: []api.Proof{kid}}
}

func inst(n int, types []api.Type, kids ...api.Proof) api.Proof {
	return api.Proof{Kind: api.ProofInst, N: n, Types: types, Kids: kids}
}

var env = api.Env{
	Classes: []api.Class{{Name: "Eq"}, {Name: "Ord", Supers: []string{"Eq", "Show"}}, {Name: "Show"}, {Name: "Odd", Supers: []string{"odd"}}},
	Insts: []api.Inst{
		{Class: "Eq", Con: "Int"},
		{Class: "Eq", Con: "L", N: 1, Preds: []api.Pred{pred("Eq", "a")}},
		{Class: "Eq", Con: "P", N: 2, Preds: []api.Pred{pred("Eq", "b"), pred("Ord", "a")}},
		{Class: "eq", Con: "Int"},
		{Class: "Nobody", Con: "Int"},
	},
}

var have = []api.Pred{pred("Ord", "a"), pred("Eq", "T b"), {Class: "c"}, pred("Odd", "a"), pred("None", "a")}

func types(l ...string) []api.Type {
	var out []api.Type
	for _, s := range l {
		out = append(out, read(s))
	}
	return out
}

func TestProves(t *testing.T) {
	for i, c := range []struct {
		p    api.Proof
		want string
	}{
		{given(0), "Ord a"},
		{given(1), "Eq (T b)"},
		{super(0, given(0)), "Eq a"},
		{super(1, given(0)), "Show a"},
		{inst(0, nil), "Eq Int"},
		{inst(1, types("Int"), inst(0, nil)), "Eq (L Int)"},
		{inst(1, types("a"), super(0, given(0))), "Eq (L a)"},
		{inst(2, types("a", "T b"), given(1), given(0)), "Eq (P a (T b))"},
		{inst(4, nil), "Nobody Int"},
	} {
		q, e := Proves(env, have, c.p)
		if e != api.OK || preds.Text([]api.Pred{q}) != c.want {
			t.Error(i, q, e)
		}
	}
	tall := api.Type{Var: 0}
	for range 99 {
		tall = api.Type{Con: "T", Args: []api.Type{tall}}
	}
	highest := api.Pred{Class: "Eq", Type: tall}
	for i, p := range []api.Proof{{}, {Kind: 4}, given(-1), given(5), given(math.MaxInt), given(2), {Kind: api.ProofGiven, Kids: []api.Proof{given(0)}}, {Kind: api.ProofGiven, Types: types("a")},
		super(2, given(0)), super(-1, given(0)), super(0, given(1)), super(0, given(3)), super(0, given(4)), super(0, given(9)), {Kind: api.ProofSuper}, {Kind: api.ProofSuper, Kids: []api.Proof{given(0), given(0)}},
		{Kind: api.ProofSuper, Kids: []api.Proof{given(0)}, Types: types("a")}, inst(-1, nil), inst(5, nil), inst(math.MinInt, nil), inst(0, types("a")), inst(0, nil, given(0)), inst(1, nil, given(0)),
		inst(1, types("a"), given(0)), inst(1, types("b"), super(0, given(0))), inst(1, types("a")), inst(2, types("a", "T b"), given(0), given(1)), inst(1, []api.Type{{Con: "t"}}, given(0)), inst(3, nil),
		inst(1, []api.Type{tall}, api.Proof{Kind: api.ProofGiven, N: 5})} {
		q, e := Proves(env, append(slices.Clone(have), highest)[:5+i/29], p)
		if e != api.ErrArg || q.Class != "" {
			t.Error("bad", i, q, e)
		}
	}
}

func TestSizeSameText(t *testing.T) {
	p := inst(0, nil, super(1, given(2)), given(3))
	for want, q := range map[string]api.Proof{
		"@0(#2.1,#3)": p,
		"@0(#2.1)":    inst(0, nil, super(1, given(2))),
		"@7":          inst(7, types("a")),
		"#-1":         given(-1),
		"?":           {},
		"?.4":         super(4, api.Proof{Kind: 9}),
	} {
		if got := Text(q); got != want {
			t.Errorf("%q, not %q", got, want)
		}
	}
	if Text(api.Proof{Kind: api.ProofSuper}) != "?" || Text(api.Proof{Kind: api.ProofSuper, Kids: []api.Proof{p, p}}) != "?" {
		t.Error("of others")
	}
	if Size(p) != 4 || Size(api.Proof{}) != 1 {
		t.Error(Size(p))
	}
	if !Same(p, inst(0, []api.Type{}, super(1, given(2)), given(3))) {
		t.Error("the same")
	}
	for i, q := range []api.Proof{inst(0, types("a"), p.Kids...), inst(1, nil, p.Kids...), inst(0, nil, p.Kids[0]), inst(0, nil, p.Kids[0], given(4)), {Kind: api.ProofSuper, Kids: p.Kids}} {
		if Same(p, q) || Same(q, p) {
			t.Error(i)
		}
	}
	if Same(inst(0, types("a")), inst(0, types("b"))) {
		t.Error("other types")
	}
}

func TestUses(t *testing.T) {
	p := inst(0, nil, super(1, given(2)), given(0), given(2), api.Proof{Kind: api.ProofGiven, N: -3, Kids: []api.Proof{given(9)}})
	if got := Uses(p); !slices.Equal(got, []int{-3, 0, 2, 9}) {
		t.Error(got)
	}
	if len(Uses(inst(0, nil))) != 0 {
		t.Error("none")
	}
}

func TestPut(t *testing.T) {
	p := inst(1, types("a"), super(0, given(1)), api.Proof{Kind: api.ProofGiven, N: 0, Kids: []api.Proof{given(77)}})
	l := []api.Proof{inst(5, types("T b")), given(8)}
	q, e := Put(p, l)
	if e != api.OK || Text(q) != "@1(#8.0,@5)" || len(q.Types) != 1 || len(q.Kids[1].Types) != 1 {
		t.Error(Text(q), e)
	}
	q.Kids[1].Types[0].Args[0].Var = 9
	q.Types[0].Var = 9
	if terms.Text(l[0].Types[0]) != "T b" || p.Types[0].Var != 0 {
		t.Error("memory is shared")
	}
	for i, bad := range []api.Proof{given(2), given(-1), inst(0, nil, given(0), given(2)), super(0, given(math.MaxInt))} {
		if q, e := Put(bad, l); e != api.ErrArg || q.Kind != 0 {
			t.Error(i, e)
		}
	}
	wide := inst(0, nil)
	for range 4095 {
		wide.Kids = append(wide.Kids, given(0))
	}
	if q, e := Put(wide, l); e != api.OK || Size(q) != 4096 {
		t.Error(e)
	}
	if q, e := Put(wide, []api.Proof{super(0, given(0))}); e != api.ErrLimit || q.Kind != 0 {
		t.Error(e)
	}
	wide.Kids = append(wide.Kids, given(1))
	if _, e := Put(wide, l[:1]); e != api.ErrArg {
		t.Error("a missing one is told first", e)
	}
	if _, e := Put(wide, l); e != api.ErrLimit {
		t.Error(e)
	}
}
