package compile

import (
	"math"
	"strings"
	"testing"

	"envoy/api"
	"envoy/fterms"
	"envoy/iprogram"
)

const lists = `
data L a = E | C a (L a);
data M a = N | J a;
class Eq a where { eq :: a -> a -> Bool };
class Eq a => Ord a where { lt :: a -> a -> Bool };
class Fun a where { each :: (b -> b) -> a -> b -> b };
instance Eq Int where { eq = eqInt };
instance Ord Int where { lt = ltInt };
instance Eq Bool where { eq a b = case a of { True -> b; False -> not b } };
instance Eq a => Eq (L a) where {
	eq xs ys = case xs of {
		E -> case ys of { E -> True; _ -> False };
		C x xt -> case ys of { E -> False; C y yt -> if eq x y then eq xt yt else False }
	}
};
instance Fun (L a) where { each f xs z = case xs of { E -> z; C _ xt -> f (each f xt z) } };
not b = if b then False else True;
sum xs = case xs of { E -> 0; C x xt -> add x (sum xt) };
map f xs = case xs of { E -> E; C x xt -> C (f x) (map f xt) };
upto n m = if lt m n then E else C n (upto (add n 1) m);
elem x xs = case xs of { E -> False; C y yt -> if eq x y then True else elem x yt };
insert x xs = case xs of { E -> C x E; C y yt -> if lt x y then C x xs else C y (insert x yt) };
sort xs = case xs of { E -> E; C x xt -> insert x (sort xt) };
a = sum (map (\ x -> mul x x) (upto 1 4));
b = elem 3 (upto 1 5);
c = eq (C (C 1 E) E) (C (C 1 E) E);
d = sort (C 3 (C 1 (C 2 E)));
e = let { go :: Ord t => t -> t -> t; go x y = if lt x y then x else y } in go 4 (-- a remark
	2);
f = each (\ x -> add x 1) (upto 1 3) 10;
g = eq (C True E) (C False E);
h = case E of { C x _ -> x };
i = quot 1 0;
j = let { loop = loop } in loop;
k = \ x -> x
`

func TestRun(t *testing.T) {
	for name, want := range map[string]api.Result{
		"a":   {Kind: api.ResValue, Text: "30"},
		"b":   {Kind: api.ResValue, Text: "True"},
		"c":   {Kind: api.ResValue, Text: "True"},
		"d":   {Kind: api.ResValue, Text: "C 1 (C 2 (C 3 E))"},
		"e":   {Kind: api.ResValue, Text: "2"},
		"f":   {Kind: api.ResValue, Text: "13"},
		"g":   {Kind: api.ResValue, Text: "False"},
		"h":   {Kind: api.ResPattern},
		"i":   {Kind: api.ResZero},
		"j":   {Kind: api.ResFuel},
		"k":   {Kind: api.ResValue, Text: "fun"},
		"sum": {Kind: api.ResValue, Text: "fun"},
	} {
		r, at, e := Run(lists, name, math.MaxInt)
		if e != api.OK || at != 0 || r.Kind != want.Kind || r.Text != want.Text {
			t.Error(name, r, at, e)
		}
	}
	if r, at, e := Run("x = add 1 2", "x", 100); e != api.OK || at != 0 || r != (api.Result{Kind: api.ResValue, Steps: 6, Text: "3"}) {
		t.Error(r, at, e)
	}
	if r, _, e := Run("x = add 1 2", "x", 3); e != api.OK || r != (api.Result{Kind: api.ResFuel, Steps: 3}) {
		t.Error(r, e)
	}
	if r, at, e := Run("x = add 1 2", "add", 100); e != api.ErrUnknown || at != 0 || r != (api.Result{}) {
		t.Error(r, at, e)
	}
	if r, at, e := Run("class C a where { m :: a }; x = m", "x", 100); e != api.ErrAmbiguous || at != 0 || r != (api.Result{}) {
		t.Error(r, at, e)
	}
	if r, at, e := Run("x = y", "x", 100); e != api.ErrUnknown || at != 4 || r != (api.Result{}) {
		t.Error(r, at, e)
	}
}

func TestType(t *testing.T) {
	for name, want := range map[string]string{
		"map":    "(a -> b) -> L a -> L b",
		"elem":   "Eq a => a -> L a -> Bool",
		"sort":   "Ord a => L a -> L a",
		"upto":   "Int -> Int -> L Int",
		"h":      "a",
		"k":      "a -> a",
		"insert": "Ord a => a -> L a -> L a",
	} {
		if got, at, e := Type(lists, name); got != want || at != 0 || e != api.OK {
			t.Error(name, got, at, e)
		}
	}
	for name := range map[string]int{"eq": 0, "add": 0, "z": 0, "": 0, "@Eq@Int": 0} {
		if got, at, e := Type(lists, name); got != "" || at != 0 || e != api.ErrUnknown {
			t.Error(name, got, at, e)
		}
	}
	if got, at, e := Type("x = ;", "x"); got != "" || at != 4 || e != api.ErrParse {
		t.Error(got, at, e)
	}
}

func TestCompile(t *testing.T) {
	u, at, e := Compile("x = add 1 2")
	if _, b, ok := iprogram.Find(u, "x"); e != api.OK || at != 0 || !ok || fterms.Text(b.Kids[0]) != "((add 1) 2)" {
		t.Error(at, e)
	}
	if u, _, e := Compile(""); e != api.OK || len(u.Entries) != 0 || len(u.Binds) != 0 || len(u.Env.Datas) != 2 {
		t.Error(e)
	}
	for _, c := range []struct {
		s  string
		at int
		e  api.Errno
	}{
		{"x = -", 4, api.ErrChar},
		{"x = 9223372036854775808", 4, api.ErrNumber},
		{"x = (", 5, api.ErrParse},
		{"data A = A; data A = B", 12, api.ErrTwice},
		{"x = y", 4, api.ErrUnknown},
		{"data A = A (Int Int)", 12, api.ErrArity},
		{"class A a => A a where { }", 0, api.ErrCycle},
		{"class A a where { }; instance A a where { }", 32, api.ErrHead},
		{"class A a where { }; instance A Int where { }; instance A Int where { }", 47, api.ErrOverlap},
		{"class A a where { }; class A a => B a where { }; instance B Int where { }", 49, api.ErrSuper},
		{"class A a where { m :: a }; instance A Int where { }", 28, api.ErrMethod},
		{"x = 1 1", 4, api.ErrMismatch},
		{"x = \\ y -> y y", 11, api.ErrOccurs},
		{"class A a where { m :: a -> a }; x = m 1", 37, api.ErrInstance},
		{"x :: a; x = 1", 8, api.ErrMismatch},
		{"x :: a -> b; x y = x y; z :: a -> b -> a; z p q = let { r :: c -> a; r s = p } in r q", 69, api.ErrSignature},
		{"z p = let { r :: c -> c; r s = p } in r", 25, api.ErrSignature},
		{"class A a where { m :: a; n :: a -> a }; x = let { y = n m } in 1; instance A Int where { m = 1; n q = q }; z = case n m of { _ -> 1 }", 108, api.ErrAmbiguous},
		{strings.Repeat(" ", api.MaxText+1), 0, api.ErrLimit},
	} {
		u, at, e := Compile(c.s)
		if at != c.at || e != c.e || u.Entries != nil || u.Binds != nil {
			t.Errorf("%.90s: %d %d", c.s, at, e)
		}
	}
}

func TestReport(t *testing.T) {
	for _, c := range []struct {
		s    string
		pos  int
		e    api.Errno
		want string
	}{
		{"x = y", 4, api.ErrUnknown, "1:5: error 7\nx = y\n    ^"},
		{"a = 1;\nx = y", 11, api.ErrUnknown, "2:5: error 7\nx = y\n    ^"},
		{"x", 1, api.ErrParse, "1:2: error 5\nx\n ^"},
		{"x", 2, api.ErrParse, "error 5"},
		{"x", -1, api.ErrAmbiguous, "error 18"},
		{"x", 99, api.OK, "ok"},
		{"", 0, api.ErrArg, "1:1: error 1\n\n^"},
	} {
		if got := Report(c.s, c.pos, c.e); got != c.want {
			t.Errorf("%q, not %q", got, c.want)
		}
	}
}
