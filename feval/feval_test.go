package feval

import (
	"math"
	"strings"
	"testing"

	"envoy/api"
)

func v(name string) api.Term { return api.Term{Kind: api.TermVar, Name: name} }

func n(k int) api.Term { return api.Term{Kind: api.TermInt, N: k} }

func app(f api.Term, l ...api.Term) api.Term {
	for _, x := range l {
		f = api.Term{Kind: api.TermApp, Kids: []api.Term{f, x}}
	}
	return f
}

func lam(name string, t api.Term) api.Term {
	return api.Term{Kind: api.TermLam, Name: name, Types: []api.Type{{Con: "Int"}}, Kids: []api.Term{t}}
}

func all(t api.Term) api.Term {
	return api.Term{Kind: api.TermAll, Vars: []int{1}, Kids: []api.Term{t}}
}

func inst(t api.Term) api.Term {
	return api.Term{Kind: api.TermInst, Types: []api.Type{{}}, Kids: []api.Term{t}}
}

func con(name string) api.Term { return api.Term{Kind: api.TermCon, Name: name} }

func pv(name string) api.Term { return api.Term{Kind: api.TermPatVar, Name: name} }

func pi(k int) api.Term { return api.Term{Kind: api.TermPatInt, N: k} }

func pc(name string, kids ...api.Term) api.Term {
	return api.Term{Kind: api.TermPatCon, Name: name, Kids: kids}
}

func alt(p, t api.Term) api.Term { return api.Term{Kind: api.TermAlt, Kids: []api.Term{p, t}} }

func choice(kids ...api.Term) api.Term { return api.Term{Kind: api.TermCase, Kids: kids} }

func let(kids ...api.Term) api.Term { return api.Term{Kind: api.TermLet, Kids: kids} }

func bind(name string, t api.Term) api.Term {
	return api.Term{Kind: api.TermBind, Name: name, Types: []api.Type{{}}, Kids: []api.Term{t}}
}

func dict(kids ...api.Term) api.Term {
	return api.Term{Kind: api.TermDict, Name: "Eq", Types: []api.Type{{}}, Kids: kids}
}

func proj(k int, t api.Term) api.Term {
	return api.Term{Kind: api.TermProj, Name: "Ord", N: k, Kids: []api.Term{t}}
}

var anyPat = api.Term{Kind: api.TermPatAny}

func TestEval(t *testing.T) {
	for i, c := range []struct {
		t     api.Term
		kind  int
		steps int
		text  string
	}{
		{app(lam("x", app(v("add"), v("x"), n(1))), n(2)), api.ResValue, 8, "3"},
		{n(-5), api.ResValue, 1, "-5"},
		{lam("x", v("x")), api.ResValue, 1, "fun"},
		{all(inst(n(1))), api.ResValue, 3, "1"},
		{con("K"), api.ResValue, 1, "K"},
		{app(con("K"), n(-1), app(con("L"), n(2)), v("add"), lam("x", n(1)), dict()), api.ResValue, 13, "K (-1) (L 2) fun fun dict"},
		{v("add"), api.ResValue, 1, "fun"},
		{app(v("add"), n(1)), api.ResValue, 3, "fun"},
		{app(v("add"), con("K")), api.ResValue, 3, "fun"},
		{app(v("add"), con("K"), n(1)), api.ResStuck, 5, ""},
		{app(v("add"), n(1), lam("x", n(1))), api.ResStuck, 5, ""},
		{app(v("quot"), n(1), n(0)), api.ResZero, 5, ""},
		{app(v("ltInt"), n(1), n(2)), api.ResValue, 5, "True"},
		{v("z"), api.ResStuck, 1, ""},
		{app(n(1), n(2)), api.ResStuck, 3, ""},
		{app(dict(), n(2)), api.ResStuck, 3, ""},
		{app(n(1), v("z")), api.ResStuck, 3, ""},
		{api.Term{Kind: api.TermHole}, api.ResStuck, 1, ""},
		{choice(n(3), alt(pi(2), n(0)), alt(pv("x"), app(v("mul"), v("x"), v("x")))), api.ResValue, 7, "9"},
		{choice(n(3), alt(pi(2), n(0)), alt(pc("K"), n(0))), api.ResPattern, 2, ""},
		{choice(app(con("K"), n(1), lam("y", n(7))), alt(pc("K", anyPat), n(0)), alt(pc("K", pi(1), pv("f")), app(v("f"), n(0)))), api.ResValue, 10, "7"},
		{choice(lam("x", n(1)), alt(pi(0), n(0)), alt(pc("K"), n(0)), alt(anyPat, n(5))), api.ResValue, 3, "5"},
		{choice(dict(), alt(pc("Eq"), n(0))), api.ResPattern, 2, ""},
		{choice(v("add"), alt(pc("add"), n(0)), alt(pv("f"), v("f"))), api.ResValue, 3, "fun"},
		{let(bind("x", app(v("add"), n(1), n(2))), app(v("mul"), v("x"), v("x"))), api.ResValue, 16, "9"},
		{let(bind("x", v("z")), n(1)), api.ResValue, 2, "1"},
		{let(bind("x", v("y")), bind("y", n(4)), v("x")), api.ResValue, 4, "4"},
		{app(lam("x", let(bind("y", v("x")), app(lam("x", v("y")), n(2)))), n(1)), api.ResValue, 9, "1"},
		{proj(1, dict(v("z"), app(v("add"), n(1), n(1)))), api.ResValue, 7, "2"},
		{proj(2, dict(n(1), n(2))), api.ResStuck, 2, ""},
		{proj(0, n(1)), api.ResStuck, 2, ""},
		{proj(0, con("K")), api.ResStuck, 2, ""},
		{app(lam("d", proj(0, v("d"))), app(lam("x", dict(v("x"))), n(6))), api.ResValue, 9, "6"},
		{app(lam("add", app(v("add"), n(1))), lam("q", con("K"))), api.ResValue, 7, "K"},
		{choice(app(con("K"), n(1)), alt(pc("K", pc("L")), n(0)), alt(pc("K", pv("x")), v("x"))), api.ResValue, 5, "1"},
	} {
		r := Eval(nil, c.t, 1000)
		if r.Kind != c.kind || r.Steps != c.steps || r.Text != c.text {
			t.Error(i, r)
		}
		// With more steps what ended ends alike; with fewer it goes on.
		if more := Eval(nil, c.t, math.MaxInt); more != r {
			t.Error(i, "more", more)
		}
		if just := Eval(nil, c.t, r.Steps); just != r {
			t.Error(i, "just as many", just)
		}
		for fuel := range r.Steps {
			if less := Eval(nil, c.t, fuel); less != (api.Result{Kind: api.ResFuel, Steps: fuel}) {
				t.Error(i, "less", fuel, less)
			}
		}
	}
}

func TestFuel(t *testing.T) {
	loop := let(bind("x", v("x")), v("x"))
	for fuel, want := range map[int]int{0: 0, -1: 0, math.MinInt: 0, 7: 7, api.MaxFuel: api.MaxFuel, api.MaxFuel + 1: api.MaxFuel, math.MaxInt: api.MaxFuel} {
		if r := Eval(nil, loop, fuel); r != (api.Result{Kind: api.ResFuel, Steps: want}) {
			t.Error(fuel, r)
		}
	}
}

func TestIllegal(t *testing.T) {
	for i, c := range []struct {
		binds []api.Term
		t     api.Term
	}{
		{nil, api.Term{}}, {nil, v("")}, {nil, bind("x", n(1))}, {[]api.Term{n(1)}, n(1)}, {[]api.Term{bind("", n(1))}, n(1)}, {[]api.Term{bind("x", n(1)), bind("y", v(""))}, n(1)},
	} {
		if r := Eval(c.binds, c.t, 100); r != (api.Result{Kind: api.ResStuck}) {
			t.Error(i, r)
		}
	}
}

func TestRun(t *testing.T) {
	binds := []api.Term{bind("x", app(v("f"), n(3))), bind("f", lam("y", app(v("add"), v("y"), v("k")))), bind("k", n(4))}
	if r := Run(binds, "x", 100); r != (api.Result{Kind: api.ResValue, Steps: 11, Text: "7"}) {
		t.Error(r)
	}
	if r := Run(binds, "z", 100); r != (api.Result{Kind: api.ResStuck, Steps: 1}) {
		t.Error(r)
	}
	if r := Run(binds, "add", 100); r != (api.Result{Kind: api.ResValue, Steps: 1, Text: "fun"}) {
		t.Error(r)
	}
	if r := Run(binds, "", 100); r != (api.Result{Kind: api.ResStuck}) {
		t.Error(r)
	}
	if r := Run(nil, "x", 0); r != (api.Result{Kind: api.ResFuel}) {
		t.Error(r)
	}
}

// TestSharedParts: a value of 2^10 leaves, of few steps.
func TestSharedParts(t *testing.T) {
	x := n(1)
	for range 10 {
		x = app(lam("x", app(con("P"), v("x"), v("x"))), x)
	}
	r := Eval(nil, x, 1000)
	if r.Kind != api.ResValue || strings.Count(r.Text, "1") != 1024 {
		t.Error(r.Kind, len(r.Text))
	}
	// One that is far too great to be written still is looked at.
	y := n(1)
	for range 200 {
		y = app(lam("x", app(con("P"), v("x"), v("x"))), y)
	}
	if r := Eval(nil, choice(y, alt(pc("P", anyPat, anyPat), n(3))), 10000); r.Text != "3" {
		t.Error(r)
	}
}

func TestPartialConstructors(t *testing.T) {
	x := app(lam("c", app(con("P"), app(v("c"), n(1)), app(v("c"), n(2)))), app(con("K"), n(0)))
	if r := Eval(nil, x, 100); r.Text != "P (K 0 1) (K 0 2)" {
		t.Error(r)
	}
}
