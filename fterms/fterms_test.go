package fterms

import (
	"math"
	"slices"
	"strings"
	"testing"

	"envoy/api"
	"envoy/terms"
)

func read(s string) api.Type {
	t, e := terms.Read(s)
	if e != api.OK {
		panic(s)
	}
	return t
}

func types(l ...string) []api.Type {
	var out []api.Type
	for _, s := range l {
		out = append(out, read(s))
	}
	return out
}

func v(name string) api.Term { return api.Term{Kind: api.TermVar, Name: name} }

func n(k int) api.Term { return api.Term{Kind: api.TermInt, N: k} }

func app(f, x api.Term) api.Term { return api.Term{Kind: api.TermApp, Kids: []api.Term{f, x}} }

func lam(name, at string, t api.Term) api.Term {
	return api.Term{Kind: api.TermLam, Name: name, Types: types(at), Kids: []api.Term{t}}
}

func all(t api.Term, vars ...int) api.Term {
	return api.Term{Kind: api.TermAll, Vars: vars, Kids: []api.Term{t}}
}

func inst(t api.Term, l ...string) api.Term {
	return api.Term{Kind: api.TermInst, Types: types(l...), Kids: []api.Term{t}}
}

func con(name string, l ...string) api.Term {
	return api.Term{Kind: api.TermCon, Name: name, Types: types(l...)}
}

func pv(name string) api.Term { return api.Term{Kind: api.TermPatVar, Name: name} }

func pc(name string, kids ...api.Term) api.Term {
	return api.Term{Kind: api.TermPatCon, Name: name, Kids: kids}
}

func alt(p, t api.Term) api.Term { return api.Term{Kind: api.TermAlt, Kids: []api.Term{p, t}} }

func choice(kids ...api.Term) api.Term { return api.Term{Kind: api.TermCase, Kids: kids} }

func let(kids ...api.Term) api.Term { return api.Term{Kind: api.TermLet, Kids: kids} }

func bind(name, at string, t api.Term, vars ...int) api.Term {
	return api.Term{Kind: api.TermBind, Name: name, Vars: vars, Types: types(at), Kids: []api.Term{t}}
}

func dict(name, at string, kids ...api.Term) api.Term {
	return api.Term{Kind: api.TermDict, Name: name, Types: types(at), Kids: kids}
}

func proj(name string, k int, t api.Term) api.Term {
	return api.Term{Kind: api.TermProj, Name: name, N: k, Kids: []api.Term{t}}
}

func hole(k int) api.Term { return api.Term{Kind: api.TermHole, N: k} }

var (
	anyPat = api.Term{Kind: api.TermPatAny}
	intPat = api.Term{Kind: api.TermPatInt, N: -3}
)

func good() map[string]api.Term {
	return map[string]api.Term{
		"x":                 v("x"),
		"-5":                n(-5),
		"?7":                hole(7),
		"(\\x : a -> T. x)": lam("x", "a -> T", v("x")),
		"(f (g x))":         app(v("f"), app(v("g"), v("x"))),
		"(/a, ?0. x)":       all(v("x"), 0, -1),
		"(/. x)":            all(v("x")),
		"(x [a, T b])":      inst(v("x"), "a", "T b"),
		"(x [])":            inst(v("x")),
		"K":                 con("K"),
		"(K [a, b])":        con("K", "a", "b"),
		"(case x {y -> y; _ -> 1; -3 -> K; (K (L _) y) -> y; K -> x})": choice(v("x"), alt(pv("y"), v("y")), alt(anyPat, n(1)), alt(intPat, con("K")), alt(pc("K", pc("L", anyPat), pv("y")), v("y")), alt(pc("K"), v("x"))),
		"(let {x [] : T = 1; f [a, b] : a -> b = g} in x)":             let(bind("x", "T", n(1)), bind("f", "a -> b", v("g"), 0, 1), v("x")),
		"(let {} in x)":   let(v("x")),
		"({Eq T a} f, 1)": dict("Eq", "T a", v("f"), n(1)),
		"({Eq a})":        dict("Eq", "a"),
		"(d.Eq.2)":        proj("Eq", 2, v("d")),
	}
}

func TestLegalText(t *testing.T) {
	for want, x := range good() {
		if !Legal(x) {
			t.Error("refused:", want)
		}
		if got := Text(x); got != want {
			t.Errorf("%q, not %q", got, want)
		}
	}
	d := api.Type{Con: "{Eq}", Args: types("a")}
	x := api.Term{Kind: api.TermLam, Name: "#0", Types: []api.Type{d}, Kids: []api.Term{v("#0")}}
	if got := Text(x); got != "(\\#0 : {Eq} a. #0)" {
		t.Error(got)
	}
}

func TestNotLegal(t *testing.T) {
	bad := []api.Term{{}, {Kind: 15}, {Kind: 99}, v(""), pv("x"), anyPat, alt(anyPat, n(1)), bind("x", "a", n(1)), app(v("x"), alt(anyPat, n(1))), app(v("x"), bind("x", "a", n(1))), app(v("x"), pv("x")),
		{Kind: api.TermApp, Kids: []api.Term{n(1)}}, {Kind: api.TermApp, Kids: []api.Term{n(1), n(1), n(1)}}, lam("", "a", n(1)), {Kind: api.TermLam, Name: "x", Kids: []api.Term{n(1)}}, {Kind: api.TermLam, Name: "x", Types: types("a", "b"), Kids: []api.Term{n(1)}},
		con(""), {Kind: api.TermCon, Name: "K", Kids: []api.Term{n(1)}}, choice(n(1)), choice(), choice(n(1), n(1)), choice(alt(anyPat, n(1)), alt(anyPat, n(1))), choice(n(1), alt(n(1), n(1))), choice(n(1), alt(anyPat, anyPat)), choice(n(1), api.Term{Kind: api.TermAlt, Kids: []api.Term{anyPat}}),
		let(), let(bind("x", "a", n(1))), let(n(1), n(1)), let(bind("", "a", n(1)), n(1)), let(api.Term{Kind: api.TermBind, Name: "x", Kids: []api.Term{n(1)}}, n(1)), let(api.Term{Kind: api.TermBind, Name: "x", Types: types("a")}, n(1)),
		dict("", "a"), {Kind: api.TermDict, Name: "Eq"}, proj("Eq", -1, n(1)), proj("", 0, n(1)), {Kind: api.TermProj, Name: "Eq"}, all(pv("x")), {Kind: api.TermAll, Vars: []int{1}}, {Kind: api.TermInst, Types: types("a")},
		choice(n(1), alt(pv(""), n(1))), choice(n(1), alt(pc(""), n(1))), choice(n(1), alt(pc("K", n(1)), n(1))), choice(n(1), alt(api.Term{Kind: api.TermPatAny, N: 1}, n(1))), choice(n(1), alt(api.Term{Kind: api.TermPatVar, Name: "x", Kids: []api.Term{anyPat}}, n(1))),
		inst(n(1), "a"), {Kind: api.TermInst, Types: []api.Type{{Con: "t"}}, Kids: []api.Term{n(1)}}}
	bad[len(bad)-2].N = 1
	for i, x := range bad {
		if Legal(x) || Text(x) != "" {
			t.Error("taken", i, x)
		}
	}
	for _, x := range good() {
		for i, y := range []api.Term{x, x, x} {
			switch i {
			case 0:
				y.Vars = append([]int{0}, y.Vars...)
				if x.Kind == api.TermAll {
					y.N = 1
				}
			case 1:
				y.Types = append(types("a"), y.Types...)
				if x.Kind == api.TermInst || x.Kind == api.TermCon {
					y.Vars = []int{1}
				}
			case 2:
				if y.Name == "" {
					y.Name = "x"
				} else {
					y.Name = ""
				}
			}
			if Legal(y) {
				t.Error("taken", Text(x), i)
			}
		}
	}
	for _, x := range []api.Term{v("x"), app(n(1), n(1)), con("K"), lam("x", "a", n(1)), let(n(1)), dict("Eq", "a")} {
		x.N = 3
		if Legal(x) {
			t.Error("a number is taken")
		}
	}
}

func TestLegalLimits(t *testing.T) {
	deep := n(1)
	for range 399 {
		deep = all(deep)
	}
	if !Legal(deep) || Legal(all(deep)) {
		t.Error("levels")
	}
	wide := dict("Eq", "a")
	for range 4095 {
		wide.Kids = append(wide.Kids, n(math.MinInt))
	}
	if !Legal(wide) || Size(wide) != 4096 {
		t.Error("nodes")
	}
	wide.Kids = append(wide.Kids, n(1))
	if Legal(wide) {
		t.Error("too many nodes")
	}
	for range 60000 {
		deep = all(deep)
	}
	if Legal(deep) || Size(deep) != 60400 || Text(deep) != "" {
		t.Error("a deep one")
	}
}

func TestSame(t *testing.T) {
	for a, x := range good() {
		for b, y := range good() {
			if Same(x, y) != (a == b) {
				t.Error(a, b)
			}
		}
	}
	if !Same(api.Term{}, api.Term{Vars: []int{}, Types: []api.Type{}, Kids: []api.Term{}}) {
		t.Error("empty lists")
	}
	if Same(all(n(1), 0), all(n(1), 1)) || Same(inst(n(1), "a"), inst(n(1), "b")) {
		t.Error("other Vars, other Types")
	}
}

func TestFree(t *testing.T) {
	x := app(app(v("b"), lam("x", "a", app(v("x"), v("y")))), app(v("x"), let(bind("f", "a", app(v("f"), v("g"))), bind("g", "a", v("a")), choice(v("f"), alt(pc("K", pv("y"), anyPat), app(v("y"), v("z"))), alt(pv("q"), v("y"))))))
	if got := Free(x); !slices.Equal(got, []string{"a", "b", "x", "y", "z"}) {
		t.Error(got)
	}
	if got := Free(lam("x", "a", v("x"))); len(got) != 0 {
		t.Error(got)
	}
	below := alt(api.Term{Kind: api.TermPatVar, Name: "x", Kids: []api.Term{pv("y")}}, app(v("x"), v("y")))
	if got := Free(below); !slices.Equal(got, []string{"y"}) {
		t.Error(got)
	}
	if got := Free(app(lam("x", "a", v("x")), v("x"))); !slices.Equal(got, []string{"x"}) {
		t.Error("behind a function its name is free again", got)
	}
}

func TestVars(t *testing.T) {
	x := app(inst(con("K", "d", "a"), "?0 -> d"), all(app(lam("x", "T b c", inst(v("x"), "e")), let(bind("y", "b -> f", inst(n(1), "f g"[:1]), 5), lam("z", "f", n(1)))), 1))
	if got := Vars(x); !slices.Equal(got, []int{-1, 3, 0, 2, 4, 5}) {
		t.Error(got)
	}
	if got := Vars(n(1)); len(got) != 0 {
		t.Error(got)
	}
}

func TestLamsApps(t *testing.T) {
	if got := Text(Lams([]string{"x", "y", "z"}, types("a", "b"), v("x"))); got != "(\\x : a. (\\y : b. x))" {
		t.Error(got)
	}
	if got := Text(Apps(v("f"), []api.Term{n(1), v("x")})); got != "((f 1) x)" {
		t.Error(got)
	}
	f, l, ts := inst(v("f"), "T a"), []api.Term{inst(v("x"), "T a")}, types("T a")
	a, b := Apps(f, l), Lams([]string{"x"}, ts, f)
	a.Kids[0].Types[0].Args[0].Var, a.Kids[1].Types[0].Args[0].Var = 9, 9
	b.Types[0].Args[0].Var, b.Kids[0].Types[0].Args[0].Var = 9, 9
	if Text(f) != "(f [T a])" || Text(l[0]) != "(x [T a])" || terms.Text(ts[0]) != "T a" {
		t.Error("memory is shared")
	}
	if Text(Apps(f, nil)) != "(f [T a])" || Text(Lams(nil, nil, f)) != "(f [T a])" {
		t.Error("of none")
	}
}

func canonText(l ...api.Term) string {
	var out []string
	for _, x := range Canon(l) {
		if x.Kind == api.TermBind {
			x = let(x, n(0))
		}
		out = append(out, Text(x))
	}
	return strings.Join(out, " | ")
}

func TestCanon(t *testing.T) {
	for want, l := range map[string][]api.Term{
		"(/a. (\\#0 : a. #0))":                                        {all(lam("#x", "h", v("#x")), 7)},
		"(/a. (/b, c. (x [c, a, b, e]))) | (/d. (y [d]))":             {all(all(inst(v("x"), "d", "a", "b", "e"), 1, 3), 0), all(inst(v("y"), "d"), 3)},
		"(/a. (/b. (x [b])))":                                         {all(all(inst(v("x"), "z"), 25), 25)},
		"(/a, b, c. (x [a, b]))":                                      {all(inst(v("x"), "f", "g"), 5, 6, 5)},
		"(\\#0 : a. (\\x : a. (\\#1 : a. ((#1 x) (\\#2 : a. #0)))))":  {lam("#9", "a", lam("x", "a", lam("#0", "a", app(app(v("#0"), v("x")), lam("#", "a", v("#9"))))))},
		"(\\#0 : a. (case #0 {#7 -> #7; _ -> #0}))":                   {lam("#7", "a", choice(v("#7"), alt(pv("#7"), v("#7")), alt(anyPat, v("#7"))))},
		"(\\#0 : a. (let {#1 [] : a = #1} in (#1 #0)))":               {lam("#3", "a", let(bind("#1", "a", v("#1")), app(v("#1"), v("#3"))))},
		"(let {f [a] : a -> c = (x [a])} in 0) | (#0 (\\#0 : b. #0))": {bind("f", "j -> c", inst(v("x"), "j"), 9), app(v("#0"), lam("#0", "b", v("#0")))},
	} {
		if got := canonText(l...); got != want {
			t.Errorf("%s, not %s", got, want)
		}
	}
	x := all(inst(v("x"), "T h"), 7)
	y := Canon([]api.Term{x})
	y[0].Vars[0], y[0].Kids[0].Types[0].Args[0].Var = 5, 5
	if Text(x) != "(/h. (x [T h]))" {
		t.Error("memory is shared")
	}
	for _, x := range good() {
		once := Canon([]api.Term{x})
		if !Same(Canon(once)[0], once[0]) {
			t.Error("Canon of Canon", Text(x))
		}
	}
}
