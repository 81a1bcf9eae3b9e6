package tables

import (
	"strconv"
	"strings"
	"testing"

	"envoy/api"
	"envoy/heads"
	"envoy/lower"
	"envoy/pdecls"
	"envoy/terms"
)

func read(t *testing.T, s string) []api.Node {
	t.Helper()
	n, at, e := pdecls.Program(s)
	if e != api.OK {
		t.Fatal(s, at, e)
	}
	return n.Kids
}

func showDatas(l []api.Data) string {
	s := ""
	for _, d := range l {
		s += d.Name + "/" + strconv.Itoa(d.N) + "{"
		for _, c := range d.Cons {
			s += c.Name + "("
			for _, t := range c.Types {
				s += terms.Text(t) + ","
			}
			s += ")"
		}
		s += "}"
	}
	return s
}

func showClasses(l []api.Class) string {
	s := ""
	for _, c := range l {
		s += c.Name + "<" + strings.Join(c.Supers, ",") + "{"
		for _, m := range c.Methods {
			s += m.Name + "/" + strconv.Itoa(m.N) + ":" + terms.Text(m.Type) + ";"
		}
		s += "}"
	}
	return s
}

const base = "Bool/0{False()True()}Int/0{}"

func TestDatas(t *testing.T) {
	for s, want := range map[string]string{
		"":                   base,
		"data M a = N | J a": base + "M/1{N()J(a,)}",
		"x = 1; data A = A B; data B = B (L A) (A -> Bool); y :: Z; data L a = C a (L a); class Q a where {}": base + "A/0{A(B,)}B/0{B(L A,A -> Bool,)}L/1{C(a,L a,)}",
		"data P b a = P a b (P a a)": base + "P/2{P(b,a,P b b,)}",
	} {
		l, at, e := Datas(read(t, s))
		if got := showDatas(l); got != want || at != 0 || e != api.OK {
			t.Error(s, got, at, e)
		}
	}
}

func TestDatasRefused(t *testing.T) {
	for _, c := range []struct {
		s  string
		at int
		e  api.Errno
	}{
		{"data Int = I", 0, api.ErrTwice},
		{"data A = A; data A = B", 12, api.ErrTwice},
		{"data A a a = A", 0, api.ErrTwice},
		{"data A = A | A", 13, api.ErrTwice},
		{"data A = A; data B = C | A", 25, api.ErrTwice},
		{"data A = True", 9, api.ErrTwice},
		{"data A = Z Z; data B = A; data B = C", 26, api.ErrTwice},
		{"data A = A | A; data B b b = B", 16, api.ErrTwice},
		{"data A = A | A; data B b b = B; data B = C", 32, api.ErrTwice},
		{"data A = A Z; data B = A", 23, api.ErrTwice},
		{"data A = A b", 11, api.ErrUnknown},
		{"data A = A (Int Int)", 12, api.ErrArity},
		{"data A a = A A; data B = B Z", 13, api.ErrArity},
		{"data A = A B; data B a = B Z", 11, api.ErrArity},
	} {
		l, at, e := Datas(read(t, c.s))
		if l != nil || at != c.at || e != c.e {
			t.Error(c.s, at, e)
		}
	}
	bad := api.Node{Kind: api.DataNode, Pos: 99, Text: "D"}
	if _, at, e := Datas(append(read(t, "data A = A; data A = B"), bad)); at != 99 || e != api.ErrArg {
		t.Error(at, e)
	}
	if _, at, e := Datas([]api.Node{{Kind: api.ClassNode}, {Kind: 77}}); at != 0 || e != api.OK {
		t.Error("others do not count", at, e)
	}
}

func TestClasses(t *testing.T) {
	for s, want := range map[string]string{
		"": "",
		"class Eq a where { eq :: a -> a -> Bool }":                                             "Eq<{eq/0:a -> a -> Bool;}",
		"data D = D; class (Eq b, Zed b) => Ord b where { m :: c -> b -> c; n :: d -> e -> b }": "Ord<Eq,Zed{m/1:b -> a -> b;n/2:b -> c -> a;}",
		"class C a where { }; class C a => D a where { m :: a }":                                "C<{}D<C{m/0:a;}",
	} {
		l, at, e := Classes(lower.Base(), read(t, s))
		if got := showClasses(l); got != want || at != 0 || e != api.OK {
			t.Error(s, got, at, e)
		}
	}
	for _, c := range []struct {
		s  string
		at int
		e  api.Errno
	}{
		{"class C a where { }; class C a where { }", 21, api.ErrTwice},
		{"class C a where { m :: a }; class D a where { m :: a }", 46, api.ErrTwice},
		{"class C a where { m :: a; m :: a }", 26, api.ErrTwice},
		{"class C a where { m :: a; m :: a }; class C a where { }", 36, api.ErrTwice},
		{"class D b => C a where { }", 6, api.ErrHead},
		{"class (D a, D (T a)) => C a where { }", 12, api.ErrHead},
		{"class C a where { m :: D a => a }", 23, api.ErrArity},
		{"class C a where { m :: (D b, E b) => Z }", 24, api.ErrArity},
		{"class C a where { m :: a -> Z }", 28, api.ErrUnknown},
		{"class C a where { m :: a; n :: Int a }", 31, api.ErrArity},
		{"class C a where { m :: b -> Int }", 18, api.ErrAmbiguous},
		{"class C a where { m :: b -> Int }; class D b => E a where { }", 18, api.ErrAmbiguous},
		{"class D b => E a where { m :: Z }; class C a where { m :: a }", 53, api.ErrTwice},
	} {
		l, at, e := Classes(lower.Base(), read(t, c.s))
		if l != nil || at != c.at || e != c.e {
			t.Error(c.s, at, e)
		}
	}
	bad := api.Node{Kind: api.ClassNode, Pos: 99}
	if _, at, e := Classes(nil, append(read(t, "class C a where { }; class C a where { }"), bad)); at != 99 || e != api.ErrArg {
		t.Error(at, e)
	}
}

func TestInsts(t *testing.T) {
	decls := read(t, "data L a = C a; data P a b = P a b; class Eq a where { eq :: a; ne :: a }; class Ord a where { }")
	datas, _, _ := Datas(decls)
	classes, _, _ := Classes(datas, decls)
	env := api.Env{Datas: datas, Classes: classes}
	for s, want := range map[string]string{
		"": "",
		"instance Eq Int where { ne = 1; eq = 2 }":                    "instance Eq Int;",
		"instance (Eq b, Ord a) => Ord (P a b) where { }; x = 1":      "instance (Eq b, Ord a) => Ord (P a b);",
		"instance Ord (a -> b) where { }; instance Ord Int where { }": "instance Ord (a -> b);instance Ord Int;",
		"instance (Eq x, Eq x) => Ord (L x) where { }":                "instance (Eq a, Eq a) => Ord (L a);",
	} {
		l, at, e := Insts(env, read(t, s))
		got := ""
		for _, x := range l {
			got += heads.Text(x) + ";"
		}
		if got != want || at != 0 || e != api.OK {
			t.Error(s, got, at, e)
		}
	}
	for _, c := range []struct {
		s  string
		at int
		e  api.Errno
	}{
		{"instance Z (L Int) where { }", 0, api.ErrUnknown},
		{"instance Ord a where { }", 13, api.ErrHead},
		{"instance Ord (L Int) where { }", 14, api.ErrHead},
		{"instance Ord (P a a) where { }", 14, api.ErrHead},
		{"instance Ord (Z a) where { }", 14, api.ErrUnknown},
		{"instance Ord L where { }", 13, api.ErrArity},
		{"instance Eq b => Ord (L a) where { }", 9, api.ErrHead},
		{"instance Eq (L a) => Ord (L a) where { }", 9, api.ErrHead},
		{"instance Z b => Ord (L a) where { }", 9, api.ErrHead},
		{"instance (Z a, Eq b) => Ord (L a) where { }", 10, api.ErrUnknown},
		{"instance Ord Int where { eq = 1 }", 25, api.ErrMethod},
		{"instance Eq Int where { eq = 1; eq = 2 }", 32, api.ErrMethod},
		{"instance Eq Int where { eq = 1 }", 0, api.ErrMethod},
		{"instance Eq Int where { eq = 1; z = 2 }", 32, api.ErrMethod},
		{"instance Ord Int where { }; instance Ord Int where { }", 28, api.ErrOverlap},
		{"instance Ord Int where { }; instance Ord Int where { z = 1 }", 53, api.ErrMethod},
		{"instance Ord Int where { }; instance Ord Int where { }; instance Z Int where { }", 28, api.ErrOverlap},
	} {
		l, at, e := Insts(env, read(t, c.s))
		if l != nil || at != c.at || e != c.e {
			t.Error(c.s, at, e)
		}
	}
	bad := api.Node{Kind: api.InstNode, Pos: 99}
	if _, at, e := Insts(env, append(read(t, "instance Z Int where { }"), bad)); at != 99 || e != api.ErrArg {
		t.Error(at, e)
	}
}

func TestConMethod(t *testing.T) {
	datas, _, _ := Datas(read(t, "data M a = N | J a"))
	if d, i, ok := Con(datas, "J"); !ok || d.Name != "M" || i != 1 {
		t.Error(d, i, ok)
	}
	if d, i, ok := Con(datas, "True"); !ok || d.Name != "Bool" || i != 1 {
		t.Error(d, i, ok)
	}
	if d, i, ok := Con(datas, "Z"); ok || d.Name != "" || i != 0 {
		t.Error(d, i, ok)
	}
	d, _, _ := Con(datas, "J")
	d.Cons[1].Types[0].Var = 7
	if datas[2].Cons[1].Types[0].Var != 0 {
		t.Error("memory is shared")
	}
	classes, _, _ := Classes(datas, read(t, "class C a where { }; class D a where { m :: a; n :: a }"))
	if i, j, ok := Method(classes, "n"); i != 1 || j != 1 || !ok {
		t.Error(i, j, ok)
	}
	if i, j, ok := Method(classes, "z"); i != 0 || j != 0 || ok {
		t.Error(i, j, ok)
	}
}
