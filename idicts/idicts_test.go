package idicts

import (
	"math"
	"strings"
	"testing"

	"envoy/api"
	"envoy/classenv"
	"envoy/fcheck"
	"envoy/fsigs"
	"envoy/fterms"
	"envoy/ftypes"
	"envoy/pdecls"
)

const classes = "data L a = E | C a (L a); data P a b = P a b; class Eq a where { eq :: a -> a -> Bool }; class Show a where { }; class (Show a, Eq a) => Ord a where { pick :: c -> a -> b -> c; lt :: a -> a -> Bool }; "

func read(t *testing.T, s string) (api.Env, []api.Node) {
	t.Helper()
	n, at, e := pdecls.Program(classes + s)
	if e != api.OK {
		t.Fatal(s, at, e)
	}
	env, at, e := classenv.Build(n)
	if e != api.OK {
		t.Fatal(s, at, e)
	}
	var insts []api.Node
	for _, k := range n.Kids {
		if k.Kind == api.InstNode {
			insts = append(insts, k)
		}
	}
	return env, insts
}

func bindText(b api.Term) string {
	s := fterms.Text(api.Term{Kind: api.TermLet, Kids: []api.Term{b, {Kind: api.TermInt}}})
	return strings.TrimSuffix(strings.TrimPrefix(s, "(let {"), "} in 0)")
}

// sound tells that the checker of System F takes the records, of their types.
func sound(t *testing.T, env api.Env, l []api.Entry, binds []api.Term) {
	t.Helper()
	var around []api.Typed
	for _, x := range l {
		around = append(around, api.Typed{Name: x.Name, Poly: ftypes.Of(x.Scheme)})
	}
	if at, e := fcheck.Binds(env, around, binds); e != api.OK {
		t.Error("not taken", at, e, bindText(binds[at]))
	}
	for i, b := range binds {
		x, _ := fsigs.Inst(env, i)
		if x.Name != b.Name || !ftypes.Alike(x.Poly, api.Poly{Vars: b.Vars, Type: b.Types[0]}) {
			t.Error("another type", b.Name)
		}
	}
}

func TestInst(t *testing.T) {
	env, insts := read(t, "instance Eq Int where { eq = eqInt }; instance Eq a => Eq (L a) where { eq = \\ x y -> case x of { C z w -> eq z z } }; instance Show (L a) where { }; "+
		"instance Ord a => Ord (L a) where { lt x y = eq x y; pick = \\ x -> \\ y -> \\ z -> x }; instance (Eq b, Eq a) => Eq (P a b) where { eq = \\ p -> \\ q -> True }")
	want := []string{
		"@Eq@Int [] : {Eq} Int = ({Eq Int} (let {@ [] : Int -> Int -> Bool = eqInt} in (@ [])))",
		"@Eq@L [a] : {Eq} a -> {Eq} (L a) = (\\#0 : {Eq} a. ({Eq L a} (let {@ [b] : {Eq} b -> L b -> L b -> Bool = (\\#1 : {Eq} b. (\\x : L b. (\\y : L b. (case x {(C z w) -> (((#1.Eq.0) z) z)}))))} in ((@ [a]) #0))))",
		"@Show@L [a] : {Show} (L a) = ({Show L a})",
		"@Ord@L [a] : {Ord} a -> {Ord} (L a) = (\\#0 : {Ord} a. ({Ord L a} (@Show@L [a]), ((@Eq@L [a]) (#0.Ord.1)), " +
			"(/b, c. (let {@ [d, e, f] : {Ord} e -> d -> L e -> f -> d = (\\#1 : {Ord} e. (\\x : d. (\\y : L e. (\\z : f. x))))} in ((@ [b, a, c]) #0))), " +
			"(let {@ [g] : {Ord} g -> L g -> L g -> Bool = (\\#2 : {Ord} g. (\\x : L g. (\\y : L g. (((((@Eq@L [g]) (#2.Ord.1)).Eq.0) x) y))))} in ((@ [a]) #0))))",
		"@Eq@P [a, b] : {Eq} b -> {Eq} a -> {Eq} (P a b) = (\\#0 : {Eq} b. (\\#1 : {Eq} a. ({Eq P a b} (let {@ [c, d] : {Eq} d -> {Eq} c -> P c d -> P c d -> Bool = (\\#2 : {Eq} d. (\\#3 : {Eq} c. (\\p : P c d. (\\q : P c d. True))))} in (((@ [a, b]) #0) #1)))))",
	}
	for i, n := range insts {
		b, at, e := Inst(env, nil, i, n)
		got := bindText(b)
		if e != api.OK || at != 0 || got != want[i] {
			t.Errorf("%d: %d %d\n%s\nnot\n%s", i, at, e, bindText(b), want[i])
		}
	}
	all, at, e := Insts(env, nil, insts)
	if e != api.OK || at != 0 || len(all) != len(insts) {
		t.Fatal(at, e)
	}
	sound(t, env, nil, all)
	// Numbers go on from one to the next one.
	if got := bindText(all[2]); got != "@Show@L [c] : {Show} (L c) = ({Show L c})" {
		t.Error(got)
	}
}

func TestWithNames(t *testing.T) {
	env, insts := read(t, "instance Eq Int where { eq = same }")
	l := []api.Entry{{Name: "same", Scheme: api.Scheme{N: 1, Type: api.Type{Con: "->", Args: []api.Type{{}, {Con: "->", Args: []api.Type{{}, {Con: "Bool"}}}}}}}}
	all, at, e := Insts(env, l, insts)
	if e != api.OK {
		t.Fatal(at, e)
	}
	sound(t, env, l, all)
	if _, at, e := Insts(env, nil, insts); at != insts[0].Kids[1].Kids[0].Pos || e != api.ErrUnknown {
		t.Error(at, e)
	}
	if _, at, e := Insts(env, []api.Entry{{Scheme: api.Scheme{N: 1, Type: api.Type{Con: "T"}}}}, insts); at != 0 || e != api.ErrArg {
		t.Error("names that may not be", at, e)
	}
}

func TestRefused(t *testing.T) {
	env, insts := read(t, "instance Eq Int where { eq = eqInt }; instance Show Int where { }; instance Ord Int where { pick x y z = x; lt = ltInt }")
	for _, i := range []int{-1, 3, math.MaxInt, math.MinInt} {
		if b, at, e := Inst(env, nil, i, insts[0]); at != insts[0].Pos || e != api.ErrArg || b.Kind != 0 {
			t.Error(i, at, e)
		}
	}
	if _, at, e := Inst(env, nil, 1, insts[0]); at != insts[0].Pos || e != api.ErrArg {
		t.Error("bindings of another class", at, e)
	}
	if _, at, e := Inst(env, nil, 0, insts[1]); at != insts[1].Pos || e != api.ErrArg {
		t.Error("too few bindings", at, e)
	}
	if _, at, e := Inst(env, nil, 0, api.Node{Kind: api.InstNode, Pos: 5}); at != 5 || e != api.ErrArg {
		t.Error(at, e)
	}
	twice := insts[0]
	twice.Kids = append(append([]api.Node{}, twice.Kids...), twice.Kids[1])
	if _, at, e := Inst(env, nil, 0, twice); at != insts[0].Pos || e != api.ErrArg {
		t.Error("twice", at, e)
	}
	bad := env
	bad.Insts = append([]api.Inst{}, env.Insts[2], env.Insts[0], env.Insts[1])
	bad.Insts[2].Class = "Gone"
	if _, at, e := Inst(bad, nil, 1, insts[0]); at != insts[0].Pos || e != api.ErrArg {
		t.Error("an env that is refused", at, e)
	}
	if all, at, e := Insts(bad, nil, insts); at != insts[0].Pos || e != api.ErrArg || all != nil {
		t.Error(at, e)
	}
	for _, l := range [][]api.Node{nil, insts[:2], append(append([]api.Node{}, insts...), insts[0])} {
		if all, at, e := Insts(env, nil, l); at != 0 || e != api.ErrArg || all != nil {
			t.Error(len(l), at, e)
		}
	}
	if all, _, e := Insts(api.Env{}, nil, []api.Node{{Kind: api.BindNode}}); e != api.OK || len(all) != 0 {
		t.Error(e)
	}
}

func TestErrors(t *testing.T) {
	for _, c := range []struct {
		s, at string
		e     api.Errno
	}{
		{"instance Eq Int where { eq = add }", "add }", 0},
		{"instance Eq Int where { eq = 1 }", "1 }", api.ErrMismatch},
		{"instance Eq (L a) where { eq x y = case x of { C z w -> eq z z } }", "eq z z", api.ErrSignature},
		{"instance Eq Int where { eq = eqInt }; instance Show Int where { }; instance Ord Int where { lt = 1; pick = y }", "y }", api.ErrUnknown},
		{"instance Eq Int where { eq = eqInt }; instance Show Int where { }; instance Ord Int where { pick x y z = z; lt = ltInt }", "x y z", api.ErrMismatch},
	} {
		env, insts := read(t, c.s)
		all, at, e := Insts(env, nil, insts)
		want := strings.LastIndex(classes+c.s, c.at)
		if c.e == 0 {
			c.e = api.ErrMismatch
		}
		if at != want || e != c.e || all != nil {
			t.Error(c.s, at, want, e)
		}
	}
}

func TestLimit(t *testing.T) {
	big := "True"
	for range 11 {
		big = "(if " + big + " then " + big + " else False)"
	}
	env, insts := read(t, "class Big a where { m :: a -> Bool; n :: a -> Bool }; instance Big Int where { m x = "+big+"; n x = y }")
	if _, at, e := Inst(env, nil, 0, insts[0]); e != api.ErrLimit {
		t.Error(at, e)
	}
	half := "True"
	for range 8 {
		half = "(if " + half + " then " + half + " else False)"
	}
	env, insts = read(t, "class Big a where { m :: a -> Bool; n :: a -> Bool; o :: a -> Bool }; instance Big Int where { m x = "+half+"; n x = "+half+"; o x = "+half+"}")
	if _, at, e := Inst(env, nil, 0, insts[0]); at != insts[0].Pos || e != api.ErrLimit {
		t.Error(at, e)
	}
}
