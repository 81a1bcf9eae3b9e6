package preds

import (
	"slices"
	"testing"

	"envoy/api"
	"envoy/terms"
)

func pred(class, s string) api.Pred {
	t, e := terms.Read(s)
	if e != api.OK {
		panic(s)
	}
	return api.Pred{Class: class, Type: t}
}

func TestLegal(t *testing.T) {
	for _, p := range []api.Pred{pred("C", "a"), pred("C'", "T (a -> ?0)"), pred("C", "!0")} {
		if !Legal(p) {
			t.Error(p)
		}
	}
	for _, p := range []api.Pred{{}, pred("c", "a"), pred("", "a"), pred("{C}", "a"), {Class: "C", Type: api.Type{Con: "t"}}} {
		if Legal(p) {
			t.Error(p)
		}
	}
}

func TestSameCmpHas(t *testing.T) {
	a, b := pred("C", "T a"), pred("C", "T a")
	if !Same(a, b) || Same(a, pred("D", "T a")) || Same(a, pred("C", "T b")) {
		t.Error("Same")
	}
	for _, c := range []struct {
		a, b api.Pred
		want int
	}{
		{a, b, 0},
		{pred("C", "b"), pred("D", "a"), -1},
		{pred("D", "a"), pred("C", "b"), 1},
		{pred("C", "?0"), pred("C", "a"), -1},
		{pred("C", "b1"), pred("C", "b"), 1},
		{pred("C", "T a"), pred("C", "a"), -1},
		{pred("C", "c"), pred("C", "b1"), 1},
		{api.Pred{Class: "C", Type: api.Type{Con: "t"}}, api.Pred{Class: "C", Type: api.Type{Con: "u"}}, 0},
	} {
		if got := Cmp(c.a, c.b); got != c.want {
			t.Errorf("%v, %v: %d", c.a, c.b, got)
		}
	}
	l := []api.Pred{pred("D", "a"), a}
	if !Has(l, b) || Has(l, pred("C", "a")) || Has(nil, a) {
		t.Error("Has")
	}
}

func TestOnce(t *testing.T) {
	l := []api.Pred{pred("C", "T a"), pred("D", "a"), pred("C", "T a"), pred("D", "a"), pred("C", "a")}
	got := Once(l)
	if len(got) != 3 || Text(got) != "(C (T a), D a, C a)" || cap(got) != 3 {
		t.Error(Text(got))
	}
	got[0].Type.Args[0].Var = 9
	if l[0].Type.Args[0].Var != 0 || len(l) != 5 || l[2].Class != "C" {
		t.Error("memory is shared")
	}
	odd := []api.Pred{{Class: "C1", Type: api.Type{Con: "2"}}, {Class: "C", Type: api.Type{Con: "12"}}, {Class: "C", Type: api.Type{Var: 1, Args: []api.Type{{}}}}, {Class: "C", Type: api.Type{Var: 1}}}
	if len(Once(odd)) != 4 || len(Once(nil)) != 0 {
		t.Error("what may not be is told apart, too")
	}
}

func TestVarsTextPlain(t *testing.T) {
	l := []api.Pred{pred("C", "T c a"), pred("D", "?0"), pred("C", "b -> a")}
	if got := Vars(l); !slices.Equal(got, []int{2, 0, -1, 1}) {
		t.Error(got)
	}
	if Vars(nil) != nil {
		t.Error("of none")
	}
	for want, l := range map[string][]api.Pred{
		"":                        nil,
		"C a":                     {pred("C", "a")},
		"C (T a)":                 {pred("C", "T a")},
		"C Int":                   {pred("C", "Int")},
		"(C a, D (T b))":          {pred("C", "a"), pred("D", "T b")},
		"(C (a -> b), C a, C !0)": {pred("C", "a -> b"), pred("C", "a"), pred("C", "!0")},
	} {
		if got := Text(l); got != want {
			t.Errorf("%q, not %q", got, want)
		}
	}
	if Text([]api.Pred{pred("C", "a"), pred("c", "a")}) != "" || Text([]api.Pred{{}}) != "" {
		t.Error("one that may not be")
	}
	if !Plain(pred("C", "a")) || Plain(pred("C", "T a")) || Plain(pred("C", "!0")) {
		t.Error("Plain")
	}
}
