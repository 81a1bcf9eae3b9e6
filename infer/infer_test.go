package infer

import (
	"strings"
	"testing"

	"envoy/api"
	"envoy/classenv"
	"envoy/fcheck"
	"envoy/fsigs"
	"envoy/fterms"
	"envoy/ftypes"
	"envoy/lower"
	"envoy/pdecls"
	"envoy/pexps"
	"envoy/ptypes"
	"envoy/scheme"
)

const prelude = "data M a = N | J a; data P a b = P a b; data L a = E | C a (L a); " +
	"class Eq a where { eq :: a -> a -> Bool }; class Show a where { show :: a -> Int }; class (Show a, Eq a) => Ord a where { lt :: a -> a -> Bool; pick :: b -> a -> b -> b }; class Def a where { def :: a }; " +
	"instance Eq Int where { eq = eqInt }; instance Show Int where { show = \\ x -> x }; instance Ord Int where { lt = ltInt; pick = \\ a -> \\ b -> \\ c -> a }; " +
	"instance Eq a => Eq (L a) where { eq = eq }; instance (Eq a, Eq b) => Eq (P a b) where { eq = eq }; instance Def Int where { def = 0 }"

func envOf(t *testing.T) api.Env {
	t.Helper()
	n, at, e := pdecls.Program(prelude)
	if e != api.OK {
		t.Fatal(at, e)
	}
	env, at, e := classenv.Build(n)
	if e != api.OK {
		t.Fatal(at, e)
	}
	return env
}

func expOf(t *testing.T, s string) api.Node {
	t.Helper()
	n, at, e := pexps.Exp(s)
	if e != api.OK {
		t.Fatal(s, at, e)
	}
	return n
}

func bindsOf(t *testing.T, s string) []api.Node {
	t.Helper()
	n, at, e := pdecls.Program(s)
	if e != api.OK {
		t.Fatal(s, at, e)
	}
	return n.Kids
}

func schemeOf(t *testing.T, env api.Env, s string) api.Scheme {
	t.Helper()
	n, at, e := ptypes.Qual(s)
	if e != api.OK {
		t.Fatal(s, at, e)
	}
	out, _, at, e := lower.Scheme(env, n)
	if e != api.OK {
		t.Fatal(s, at, e)
	}
	return out
}

// sound tells that the checker of System F takes terms, each of its scheme's type.
func sound(t *testing.T, env api.Env, l, entries []api.Entry, binds []api.Term) {
	t.Helper()
	var around []api.Typed
	for i := range env.Insts {
		x, _ := fsigs.Inst(env, i)
		around = append(around, x)
	}
	for _, x := range l {
		around = append(around, api.Typed{Name: x.Name, Poly: ftypes.Of(x.Scheme)})
	}
	if at, e := fcheck.Binds(env, around, binds); e != api.OK {
		t.Error("not taken", at, e, fterms.Text(inLet(binds[at])))
	}
	for i, b := range binds {
		if b.Name != entries[i].Name || !ftypes.Alike(api.Poly{Vars: b.Vars, Type: b.Types[0]}, ftypes.Of(entries[i].Scheme)) {
			t.Error("another type", b.Name)
		}
	}
}

func bindText(b api.Term) string {
	s := fterms.Text(inLet(b))
	return strings.TrimSuffix(strings.TrimPrefix(s, "(let {"), "} in 0)")
}

func TestExp(t *testing.T) {
	env := envOf(t)
	for s, want := range map[string][2]string{
		"\\ x -> x":                         {"a -> a", "it [a] : a -> a = (\\x : a. x)"},
		"1":                                 {"Int", "it [] : Int = 1"},
		"\\ x y -> if eq x y then 1 else 2": {"Eq a => a -> a -> Int", "it [a] : {Eq} a -> a -> a -> Int = (\\#0 : {Eq} a. (\\x : a. (\\y : a. (case (((#0.Eq.0) x) y) {True -> 1; False -> 2}))))"},
		"add 1":                             {"Int -> Int", "it [] : Int -> Int = (add 1)"},
		"J":                                 {"a -> M a", "it [a] : a -> M a = (J [a])"},
		"eq 1 2":                            {"Bool", "it [] : Bool = (((@Eq@Int.Eq.0) 1) 2)"},
		"\\ x -> pick 1 x":                  {"Ord a => a -> Int -> Int", "it [a] : {Ord} a -> a -> Int -> Int = (\\#0 : {Ord} a. (\\x : a. ((((#0.Ord.3) [Int]) 1) x)))"},
		"\\ x y -> case eq x y of { True -> lt x y; z -> z }": {"Ord a => a -> a -> Bool", "it [a] : {Ord} a -> a -> a -> Bool = (\\#0 : {Ord} a. (\\x : a. (\\y : a. (case ((((#0.Ord.1).Eq.0) x) y) {True -> (((#0.Ord.2) x) y); z -> z}))))"},
		"\\ x -> eq (C x E)":                                  {"Eq a => a -> L a -> Bool", "it [a] : {Eq} a -> a -> L a -> Bool = (\\#0 : {Eq} a. (\\x : a. ((((@Eq@L [a]) #0).Eq.0) (((C [a]) x) (E [a])))))"},
		"(\\ x -> 1) N":                                       {"Int", "it [] : Int = ((\\x : M Int. 1) (N [Int]))"},
		"case J 1 of { J x -> x; N -> 0 }":                    {"Int", "it [] : Int = (case ((J [Int]) 1) {(J x) -> x; N -> 0})"},
		"let { i = \\ x -> x } in P (i 1) (i True)":           {"P Int Bool", "it [] : P Int Bool = (let {i [a] : a -> a = (\\x : a. x)} in (((P [Int, Bool]) ((i [Int]) 1)) ((i [Bool]) True)))"},
		"let { i :: a -> a; i = \\ x -> x } in i i":           {"a -> a", "it [a] : a -> a = (let {i [b] : b -> b = (\\x : b. x)} in ((i [a -> a]) (i [a])))"},
		"\\ x -> let { f = \\ y -> eq x y } in f":             {"Eq a => a -> a -> Bool", "it [a] : {Eq} a -> a -> a -> Bool = (\\#0 : {Eq} a. (\\x : a. (let {f [] : a -> Bool = (\\y : a. (((#0.Eq.0) x) y))} in f)))"},
		"let { f = \\ x -> \\ y -> eq x y } in f 1":           {"Int -> Bool", "it [] : Int -> Bool = (let {f [a] : {Eq} a -> a -> a -> Bool = (\\#0 : {Eq} a. (\\x : a. (\\y : a. (((#0.Eq.0) x) y))))} in (((f [Int]) @Eq@Int) 1))"},
		"\\ x -> let { f :: b -> P b b; f y = P y y } in f x": {"a -> P a a", "it [a] : a -> P a a = (\\x : a. (let {f [b] : b -> P b b = (\\y : b. (((P [b, b]) y) y))} in ((f [a]) x)))"},
	} {
		sc, b, at, e := Exp(env, nil, expOf(t, s))
		if e != api.OK || at != 0 {
			t.Error(s, at, e)
			continue
		}
		if scheme.Text(sc) != want[0] || bindText(b) != want[1] {
			t.Errorf("%s:\n%s\n%s\nnot\n%s", s, scheme.Text(sc), bindText(b), want[1])
		}
		sound(t, env, nil, []api.Entry{{Name: "it", Scheme: sc}}, []api.Term{b})
	}
}

func TestExpRefused(t *testing.T) {
	env := envOf(t)
	for _, c := range []struct {
		s  string
		at int
		e  api.Errno
	}{
		{"\\ x -> x x", 7, api.ErrOccurs},
		{"\\ x -> f (x x)", 7, api.ErrUnknown},
		{"y", 0, api.ErrUnknown},
		{"Z", 0, api.ErrUnknown},
		{"it", 0, api.ErrArg},
		{"\\ it -> it", -1, api.OK},
		{"1 2", 0, api.ErrMismatch},
		{"add 1 True", 0, api.ErrMismatch},
		{"if 1 then 2 else 3", 3, api.ErrMismatch},
		{"if True then 2 else N", 20, api.ErrMismatch},
		{"case 1 of { True -> 2 }", 12, api.ErrMismatch},
		{"case 1 of { 1 -> 2; x -> N }", 25, api.ErrMismatch},
		{"case 1 of { J x y -> 2 }", 12, api.ErrArity},
		{"case 1 of { Z -> 2 }", 12, api.ErrUnknown},
		{"eq N N", 0, api.ErrInstance},
		{"eq (\\ x -> x)", 0, api.ErrInstance},
		{"show def", 0, api.ErrAmbiguous},
		{"\\ x -> show def", 2, api.ErrAmbiguous},
		{"let { x = show def } in 1", 6, api.ErrAmbiguous},
		{"let { x :: Int; x = show def } in 1", 20, api.ErrAmbiguous},
		{"let { f :: a -> a; f x = 1 } in f", 19, api.ErrMismatch},
		{"let { f :: a -> b; f x = x } in f", 19, api.ErrMismatch},
		{"let { f :: a -> Bool; f x = eq x x } in f", 28, api.ErrSignature},
		{"let { f :: Eq a => a -> Bool; f x = lt x x } in f", 36, api.ErrSignature},
		{"\\ x -> let { f :: a -> a; f y = x } in f", 26, api.ErrSignature},
		{"\\ x -> let { f :: a -> P a b; f y = P y x } in f", 30, api.ErrSignature},
		{"let { f :: Z; f = 1 } in f", 11, api.ErrUnknown},
		{"let { f :: Gone a => a; f = 1 } in f", 11, api.ErrUnknown},
		{"let { f :: Eq b => a; f = 1 } in f", 11, api.ErrAmbiguous},
		{"let { f x = f f } in f", 12, api.ErrOccurs},
		{"let { f :: a -> Bool; f x = eq N x } in f", 22, api.ErrMismatch},
		{"let { f :: M a -> Bool; f x = eq N x } in f", 30, api.ErrInstance},
		{"let { f :: M a -> Bool; f x = P (eq E E) (eq x x) } in f", 24, api.ErrMismatch},
		{"let { f :: M a -> P Bool Bool; f x = P (show def) (eq x x) } in f", 31, api.ErrMismatch},
		{"let { f :: M a -> P Int Bool; f x = P (show def) (eq x x) } in f", 39, api.ErrAmbiguous},
		{"let { f :: M a -> P Bool Int; f x = P (eq x x) (show def) } in f", 39, api.ErrInstance},
	} {
		sc, b, at, e := Exp(env, nil, expOf(t, c.s))
		if c.e == api.OK {
			if e != api.OK {
				t.Error(c.s, at, e)
			}
			continue
		}
		if at != c.at || e != c.e || sc.N != 0 || b.Kind != 0 {
			t.Error(c.s, at, e)
		}
	}
	if _, _, at, e := Exp(env, nil, api.Node{Kind: api.PatVar, Pos: 5, Text: "x"}); at != 5 || e != api.ErrArg {
		t.Error(at, e)
	}
}

func TestBinds(t *testing.T) {
	env := envOf(t)
	for _, c := range []struct {
		s    string
		want []string
	}{
		{"", nil},
		{"h = f 1; f x = g x; g x = if eq x x then f x else x", []string{
			"f [a] : {Eq} a -> a -> a = (\\#0 : {Eq} a. (\\x : a. (((g [a]) #0) x)))",
			"g [b] : {Eq} b -> b -> b = (\\#1 : {Eq} b. (\\x : b. (case (((#1.Eq.0) x) x) {True -> (((f [b]) #1) x); False -> x})))",
			"h [] : Int = (((f [Int]) @Eq@Int) 1)"}},
		{"x = y; y :: Def a => a; y = def", []string{
			"x [a] : {Def} a -> a = (\\#0 : {Def} a. ((y [a]) #0))",
			"y [b] : {Def} b -> b = (\\#1 : {Def} b. (#1.Def.0))"}},
		{"f :: a -> P b a -> b; f x p = case p of { P y z -> f x (P y z) }", []string{
			"f [a, b] : a -> P b a -> b = (\\x : a. (\\p : P b a. (case p {(P y z) -> (((f [a, b]) x) (((P [b, a]) y) z))})))"}},
		{"f x = g 1; g y = f y", []string{
			"f [a] : Int -> a = (\\x : Int. ((g [a]) 1))",
			"g [b] : Int -> b = (\\y : Int. ((f [b]) y))"}},
		{"f x = let { g y = P x (h y) ; h z = z } in g", []string{
			"f [a, b] : a -> b -> P a b = (\\x : a. (let {h [c] : c -> c = (\\z : c. z); g [d] : d -> P a d = (\\y : d. (((P [a, d]) x) ((h [d]) y)))} in (g [b])))"}},
		{"f x = let { g = f } in x", []string{"f [a] : a -> a = (\\x : a. (let {g [] : a -> a = (f [a])} in x))"}},
		{"f x = let { g :: Eq b => b -> Bool; g y = if eq x x then eq y y else True } in g x", []string{
			"f [a] : {Eq} a -> a -> Bool = (\\#0 : {Eq} a. (\\x : a. (let {g [b] : {Eq} b -> b -> Bool = (\\#1 : {Eq} b. (\\y : b. (case (((#0.Eq.0) x) x) {True -> (((#1.Eq.0) y) y); False -> True})))} in (((g [a]) #0) x))))"}},
	} {
		entries, binds, at, e := Binds(env, nil, bindsOf(t, c.s))
		if e != api.OK || at != 0 || len(binds) != len(c.want) {
			t.Error(c.s, at, e)
			continue
		}
		for i, b := range binds {
			if got := bindText(b); got != c.want[i] {
				t.Errorf("%s:\n%s\nnot\n%s", c.s, got, c.want[i])
			}
		}
		sound(t, env, nil, entries, binds)
	}
}

func TestBindsWithNames(t *testing.T) {
	env := envOf(t)
	l := []api.Entry{{Name: "k", Scheme: api.Scheme{Type: api.Type{Con: "Bool"}}}, {Name: "k", Scheme: schemeOf(t, env, "Eq a => a -> b -> a")}, {Name: "add", Scheme: schemeOf(t, env, "M a")}}
	// The own k is the one that x is asked of.
	_, _, at, e := Binds(env, l, bindsOf(t, "x = k 1 True; k = 7"))
	if e != api.ErrMismatch {
		t.Error(at, e)
	}
	entries, binds, at, e := Binds(env, l, bindsOf(t, "x = k 1 True; y = add"))
	if e != api.OK || bindText(binds[0]) != "x [] : Int = ((((k [Int, Bool]) @Eq@Int) 1) True)" || bindText(binds[1]) != "y [a] : M a = (add [a])" {
		t.Error(bindText(binds[0]), bindText(binds[1]), at, e)
	}
	sound(t, env, l, entries, binds)
	for i, bad := range []api.Scheme{{N: 1}, {N: 1, Type: api.Type{Con: "Int"}}, {Type: api.Type{Var: 0}}, {Type: api.Type{Var: -1}}, {Type: api.Type{Con: "t"}}} {
		if i == 0 {
			continue
		}
		x := append([]api.Entry{{Name: "bad", Scheme: bad}}, l...)
		if got, out, at, e := Binds(env, x, nil); e != api.ErrArg || at != 0 || got != nil || out != nil {
			t.Error(i, at, e)
		}
		if _, _, at, e := Exp(env, x, expOf(t, " 1")); e != api.ErrArg || at != 0 {
			t.Error(i, at, e)
		}
		if _, at, e := Check(env, x, api.Scheme{Type: api.Type{Con: "Int"}}, expOf(t, " 1")); e != api.ErrArg || at != 0 {
			t.Error(i, at, e)
		}
	}
	x := api.Node{Kind: api.ExpVar, Text: "x"}
	for _, kind := range []int{api.BindNode, api.SigNode} {
		if _, _, at, e := Binds(env, nil, []api.Node{{Kind: 99}, {Kind: api.BindNode, Text: "a", Kids: []api.Node{x}}, {Kind: kind, Pos: 7, Text: "a"}}); at != 7 || e != api.ErrArg {
			t.Error(kind, at, e)
		}
	}
}

func TestSeveralOfOneName(t *testing.T) {
	env := envOf(t)
	// Around all the last signature counts; the binding is signed with the first one.
	entries, binds, at, e := Binds(env, nil, bindsOf(t, "f :: Int; f :: Bool; f = 1; x = f"))
	if e != api.OK || len(entries) != 2 || scheme.Text(entries[0].Scheme) != "Int" || scheme.Text(entries[1].Scheme) != "Bool" || len(binds) != 2 {
		t.Error(entries, at, e)
	}
	// A signature alone is around, too.
	entries, _, at, e = Binds(env, nil, bindsOf(t, "f :: M a; x = f"))
	if e != api.OK || len(entries) != 1 || scheme.Text(entries[0].Scheme) != "M a" {
		t.Error(entries, at, e)
	}
}

func TestCheck(t *testing.T) {
	env := envOf(t)
	for _, c := range []struct{ s, exp, want string }{
		{"a -> a", "\\ x -> x", "@ [a] : a -> a = (\\x : a. x)"},
		{"Int -> Int", "\\ x -> x", "@ [] : Int -> Int = (\\x : Int. x)"},
		{"Ord a => a -> Bool", "\\ x -> eq x x", "@ [a] : {Ord} a -> a -> Bool = (\\#0 : {Ord} a. (\\x : a. ((((#0.Ord.1).Eq.0) x) x)))"},
		{"(Eq b, Eq a) => a -> b -> Bool", "\\ x y -> eq y y", "@ [a, b] : {Eq} b -> {Eq} a -> a -> b -> Bool = (\\#0 : {Eq} b. (\\#1 : {Eq} a. (\\x : a. (\\y : b. (((#0.Eq.0) y) y)))))"},
	} {
		b, at, e := Check(env, nil, schemeOf(t, env, c.s), expOf(t, c.exp))
		if e != api.OK || at != 0 || bindText(b) != c.want {
			t.Error(c.s, bindText(b), at, e)
		}
	}
	for _, c := range []struct {
		s, exp string
		at     int
		e      api.Errno
	}{
		{"a -> a", " \\ x -> 1", 3, api.ErrMismatch},
		{"a -> Bool", "\\ x -> eq x x", 7, api.ErrSignature},
		{"Int", " show def", 1, api.ErrAmbiguous},
		{"Int", " z", 1, api.ErrUnknown},
		{"Bool", " 1", 1, api.ErrMismatch},
	} {
		b, at, e := Check(env, nil, schemeOf(t, env, c.s), expOf(t, c.exp))
		if at != c.at || e != c.e || b.Kind != 0 {
			t.Error(c.s, c.exp, at, e)
		}
	}
	if _, at, e := Check(env, nil, api.Scheme{N: 1, Type: api.Type{Con: "Int"}}, api.Node{Pos: 4}); at != 0 || e != api.ErrArg {
		t.Error(at, e)
	}
	if _, at, e := Check(env, nil, api.Scheme{Type: api.Type{Var: 3}}, api.Node{Pos: 4}); at != 0 || e != api.ErrArg {
		t.Error(at, e)
	}
	if _, at, e := Check(env, nil, api.Scheme{Type: api.Type{Con: "Int"}}, api.Node{Pos: 4}); at != 4 || e != api.ErrArg {
		t.Error(at, e)
	}
	// The name @ is no expression's, and it is a legal one.
	if b, _, e := Check(env, nil, api.Scheme{Type: api.Type{Con: "Int"}}, expOf(t, "\\ it -> it")); e != api.ErrMismatch || b.Kind != 0 {
		t.Error(e)
	}
}

func TestLimit(t *testing.T) {
	env := envOf(t)
	big := "add 1 1"
	for range 10 {
		big = "add (" + big + ") (" + big + ")"
	}
	if _, _, at, e := Exp(env, nil, expOf(t, " "+big)); at != 1 || e != api.ErrLimit {
		t.Error(at, e)
	}
	if _, _, at, e := Binds(env, nil, bindsOf(t, "y = 1; x = "+big)); at != 7 || e != api.ErrLimit {
		t.Error(at, e)
	}
	if _, at, e := Check(env, nil, api.Scheme{Type: api.Type{Con: "Int"}}, expOf(t, "  "+big)); at != 2 || e != api.ErrLimit {
		t.Error(at, e)
	}
	if _, _, at, e := Exp(env, nil, expOf(t, "let { f = "+big+" } in z")); e != api.ErrUnknown {
		t.Error("a failure comes first", at, e)
	}
	twice := "\\ a -> a"
	for range 12 {
		twice = "(\\ f -> \\ x -> P (f x) (f x)) (" + twice + ")"
	}
	if _, _, at, e := Exp(env, nil, expOf(t, twice)); e != api.ErrLimit {
		t.Error("a type that is too great", at, e)
	}
}
