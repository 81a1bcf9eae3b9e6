package heads

import (
	"math"
	"testing"

	"envoy/api"
	"envoy/preds"
	"envoy/terms"
)

func read(s string) api.Type {
	t, e := terms.Read(s)
	if e != api.OK {
		panic(s)
	}
	return t
}

func pred(class, s string) api.Pred { return api.Pred{Class: class, Type: read(s)} }

func TestCheckText(t *testing.T) {
	for want, x := range map[string]api.Inst{
		"instance C Int":                     {Class: "C", Con: "Int"},
		"instance C a => D (T a)":            {Class: "D", Con: "T", N: 1, Preds: []api.Pred{pred("C", "a")}},
		"instance (C b, D a) => D (T a b)":   {Class: "D", Con: "T", N: 2, Preds: []api.Pred{pred("C", "b"), pred("D", "a")}},
		"instance C (a -> b)":                {Class: "C", Con: "->", N: 2},
		"instance (C a, C a) => C (T a b c)": {Class: "C", Con: "T", N: 3, Preds: []api.Pred{pred("C", "a"), pred("C", "a")}},
	} {
		if e := Check(x); e != api.OK {
			t.Error(want, e)
		}
		if got := Text(x); got != want {
			t.Errorf("%q, not %q", got, want)
		}
	}
	if Check(api.Inst{Class: "C", Con: "T", N: 100}) != api.OK {
		t.Error("of a hundred")
	}
	for i, x := range []api.Inst{{}, {Class: "c", Con: "T"}, {Class: "C", Con: "t"}, {Class: "C"}, {Class: "C", Con: "->"}, {Class: "C", Con: "->", N: 1}, {Class: "C", Con: "->", N: 3}, {Class: "C", Con: "!0"}, {Class: "C", Con: "{C}", N: 1},
		{Class: "C", Con: "T", N: -1}, {Class: "C", Con: "T", N: 101}, {Class: "C", Con: "T", N: math.MaxInt}, {Class: "C", Con: "T", N: math.MinInt},
		{Class: "C", Con: "T", N: 1, Preds: []api.Pred{pred("C", "b")}}, {Class: "C", Con: "T", N: 1, Preds: []api.Pred{pred("C", "?0")}}, {Class: "C", Con: "T", N: 1, Preds: []api.Pred{pred("C", "T a")}},
		{Class: "C", Con: "T", N: 1, Preds: []api.Pred{pred("c", "a")}}, {Class: "C", Con: "T", N: 1, Preds: []api.Pred{{Class: "C", Type: api.Type{Args: []api.Type{{}}}}}}, {Class: "C", Con: "T", N: 1, Preds: []api.Pred{pred("C", "a"), pred("C", "Int")}}} {
		if Check(x) != api.ErrHead || Text(x) != "" {
			t.Error(i)
		}
	}
}

var insts = []api.Inst{
	{Class: "C", Con: "Int"},
	{Class: "D", Con: "T", N: 1, Preds: []api.Pred{pred("C", "a"), pred("D", "a")}},
	{Class: "D", Con: "Int"},
	{Class: "C", Con: "->", N: 2, Preds: []api.Pred{pred("C", "b")}},
	{Class: "D", Con: "T", N: 2},
}

func TestFindOverlap(t *testing.T) {
	if i, ok := Find(insts, "D", "T"); i != 1 || !ok {
		t.Error(i, ok)
	}
	for _, s := range [][2]string{{"C", "T"}, {"E", "Int"}, {"", ""}} {
		if i, ok := Find(insts, s[0], s[1]); i != 0 || ok {
			t.Error(s, i, ok)
		}
	}
	if a, b, ok := Overlap(insts); a != 1 || b != 4 || !ok {
		t.Error(a, b, ok)
	}
	if a, b, ok := Overlap(insts[:4]); a != 0 || b != 0 || ok {
		t.Error(a, b, ok)
	}
	if a, b, ok := Overlap([]api.Inst{insts[2], insts[0], insts[0], insts[2], insts[0]}); a != 1 || b != 2 || !ok {
		t.Error(a, b, ok)
	}
}

func TestBy(t *testing.T) {
	for _, c := range []struct {
		p    api.Pred
		at   int
		want string
		ok   bool
	}{
		{pred("D", "T Int"), 1, "(C Int, D Int)", true},
		{pred("D", "T (T b)"), 1, "(C (T b), D (T b))", true},
		{pred("C", "Int"), 0, "", true},
		{pred("C", "a -> Int"), 3, "C Int", true},
		{pred("D", "T a b"), 0, "", false},
		{pred("D", "T"), 0, "", false},
		{pred("C", "a"), 0, "", false},
		{pred("C", "!0"), 0, "", false},
		{pred("C", "T a"), 0, "", false},
		{pred("C", "Int a"), 0, "", false},
	} {
		at, l, ok := By(insts, c.p)
		if at != c.at || preds.Text(l) != c.want || ok != c.ok {
			t.Errorf("%v: %d %s %v", c.p, at, preds.Text(l), ok)
		}
	}
	odd := []api.Inst{{Class: "C", Con: "T", N: 1, Preds: []api.Pred{{Class: "C", Type: api.Type{Con: "t"}}}}}
	if at, l, ok := By(odd, pred("C", "T a")); at != 0 || l != nil || !ok {
		t.Error("what is refused is none", at, l, ok)
	}
}

func TestMemoryIsNew(t *testing.T) {
	p := pred("D", "T (T b)")
	_, l, _ := By(insts, p)
	l[0].Type.Args[0].Var = 9
	if preds.Text([]api.Pred{p}) != "D (T (T b))" || preds.Text(l[1:]) != "D (T b)" {
		t.Error("memory is shared")
	}
}
