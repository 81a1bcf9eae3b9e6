package unify

import (
	"math/rand"
	"strings"
	"testing"

	"envoy/api"
	"envoy/match"
	"envoy/subst"
	"envoy/terms"
)

func read(s string) api.Type {
	t, e := terms.Read(s)
	if e != api.OK {
		panic(s)
	}
	return t
}

func show(s *subst.Subst) string {
	out := ""
	for _, p := range s.Pairs() {
		out += terms.Text(api.Type{Var: p.Var}) + "=" + terms.Text(p.Type) + ";"
	}
	return out
}

func TestUnify(t *testing.T) {
	for _, c := range []struct {
		a, b, want string
		e          api.Errno
	}{
		{"a -> T", "U -> b", "a=U;b=T;", api.OK},
		{"a", "a", "", api.OK},
		{"a", "b", "a=b;", api.OK},
		{"b", "a", "b=a;", api.OK},
		{"a", "T b", "a=T b;", api.OK},
		{"T b", "a", "a=T b;", api.OK},
		{"T", "T", "", api.OK},
		{"!0", "!0", "", api.OK},
		{"!0", "!1", "", api.ErrMismatch},
		{"T", "U", "", api.ErrMismatch},
		{"T a", "T a b", "", api.ErrMismatch},
		{"T a", "a -> b", "", api.ErrMismatch},
		{"a", "T a", "", api.ErrOccurs},
		{"T a", "a", "", api.ErrOccurs},
		{"P a b", "P b (T a)", "", api.ErrOccurs},
		{"P a b", "P b a", "a=b;", api.OK},
		{"P a b c", "P b c a", "a=c;b=c;", api.OK},
		{"P a a", "P T U", "", api.ErrMismatch},
		{"P a b a", "P (T b) U (T c)", "a=T U;b=U;c=U;", api.OK},
		{"P a T", "P (T a) U", "", api.ErrOccurs},
		{"P T a", "P U (T a)", "", api.ErrMismatch},
		{"?0 -> ?1", "?1 -> a", "?1=a;?0=a;", api.OK},
		{"P a b c", "P (Q b b) (Q c c) T", "a=Q (Q T T) (Q T T);b=Q T T;c=T;", api.OK},
	} {
		s, e := Unify(read(c.a), read(c.b))
		if e != c.e || (e == api.OK) != (s != nil) {
			t.Errorf("%s, %s: %d", c.a, c.b, e)
		} else if e == api.OK && show(s) != c.want {
			t.Errorf("%s, %s: %s", c.a, c.b, show(s))
		}
	}
	for _, x := range []api.Type{{Con: "t"}, {Con: "->"}} {
		if s, e := Unify(x, read("T")); s != nil || e != api.ErrArg {
			t.Error(s, e)
		}
		if s, e := Unify(read("T"), x); s != nil || e != api.ErrArg {
			t.Error(s, e)
		}
	}
}

// doubling tells two types that make each variable twice as great as the next one.
func doubling(n int) (api.Type, api.Type) {
	a, b := api.Type{Con: "P"}, api.Type{Con: "P"}
	for i := range n {
		a.Args = append(a.Args, api.Type{Var: i})
		b.Args = append(b.Args, api.Type{Con: "Q", Args: []api.Type{{Var: i + 1}, {Var: i + 1}}})
	}
	return a, b
}

func TestLimit(t *testing.T) {
	a, b := doubling(10)
	if _, e := Unify(a, b); e != api.OK {
		t.Error(e)
	}
	a, b = doubling(1000)
	if s, e := Unify(a, b); s != nil || e != api.ErrLimit {
		t.Error(e)
	}
	// The first error on the way is told.
	a.Args = append(a.Args, read("T"))
	b.Args = append(b.Args, read("U"))
	if _, e := Unify(a, b); e != api.ErrLimit {
		t.Error(e)
	}
	a.Args[0], b.Args[0] = read("T"), read("U")
	if _, e := Unify(a, b); e != api.ErrMismatch {
		t.Error(e)
	}
	deep := read(strings.Repeat("T (", 98) + "T a" + strings.Repeat(")", 98))
	if _, e := Unify(read("P b"), api.Type{Con: "P", Args: []api.Type{deep.Args[0]}}); e != api.OK {
		t.Error(e)
	}
	if _, e := Unify(read("P b a"), api.Type{Con: "P", Args: []api.Type{deep.Args[0], read("T (T c)")}}); e != api.ErrLimit {
		t.Error("too deep", e)
	}
}

func TestAll(t *testing.T) {
	l := []api.Type{read("a"), read("T a")}
	if s, e := All(l, []api.Type{read("b"), read("T U")}); e != api.OK || show(s) != "a=U;b=U;" {
		t.Error(e)
	}
	if s, e := All(nil, nil); e != api.OK || show(s) != "" {
		t.Error(e)
	}
	if s, e := All(l, l[:1]); s != nil || e != api.ErrMismatch {
		t.Error(e)
	}
	if s, e := All(l, []api.Type{{Con: "t"}}); s != nil || e != api.ErrArg {
		t.Error(e)
	}
	if s, e := All([]api.Type{read("T"), {Con: "t"}}, []api.Type{read("U"), read("U")}); s != nil || e != api.ErrArg {
		t.Error(e)
	}
	if s, e := All([]api.Type{read("a"), read("a")}, []api.Type{read("T"), read("U")}); s != nil || e != api.ErrMismatch {
		t.Error(e)
	}
}

func TestWith(t *testing.T) {
	s := subst.New(api.Pair{Var: 0, Type: read("T b")})
	u, e := With(s, read("a"), read("T U"))
	if e != api.OK || show(u) != "a=T U;b=U;" || show(s) != "a=T b;" {
		t.Error(show(u), e)
	}
	if u, e := With(s, read("a"), read("U")); u != nil || e != api.ErrMismatch {
		t.Error(e)
	}
	if u, e := With(s, read("a"), read("b")); u != nil || e != api.ErrOccurs {
		t.Error(e)
	}
	if u, e := With(s, read("a"), api.Type{Con: "t"}); u != nil || e != api.ErrArg {
		t.Error(e)
	}
	if u, e := With(nil, read("a"), read("b")); e != api.OK || show(u) != "a=b;" {
		t.Error(e)
	}
}

func TestApart(t *testing.T) {
	for _, c := range []struct {
		a, b string
		want bool
	}{
		{"a", "T a", false},
		{"T a", "T b", false},
		{"T", "U", true},
		{"P a a", "P T U", true},
		{"P a a", "P b (T b)", true},
		{"P a b", "P b a", false},
		{"P a T", "P U a", false},
	} {
		if got := Apart(read(c.a), read(c.b)); got != c.want {
			t.Errorf("%s, %s: %v", c.a, c.b, got)
		}
	}
	if Apart(api.Type{Con: "t"}, read("T")) || Apart(read("T"), api.Type{Con: "t"}) {
		t.Error("no terms")
	}
	a, b := doubling(100)
	if Apart(a, b) {
		t.Error("a limit")
	}
}

func random(r *rand.Rand, depth, vars int) api.Type {
	if depth == 0 || r.Intn(3) == 0 {
		return api.Type{Var: r.Intn(vars)}
	}
	if r.Intn(4) == 0 {
		return api.Type{Con: "U"}
	}
	return api.Type{Con: "P", Args: []api.Type{random(r, depth-1, vars), random(r, depth-1, vars)}}
}

// TestMostGeneral: what is told makes both one, has none of its variables in it, and any other one is a case of it.
func TestMostGeneral(t *testing.T) {
	r := rand.New(rand.NewSource(1))
	found := 0
	for range 20000 {
		a, b := random(r, 3, 4), random(r, 3, 4)
		var pairs []api.Pair
		for v := range 4 {
			pairs = append(pairs, api.Pair{Var: v, Type: random(r, 1, 2)})
		}
		other := subst.New(pairs...)
		s, e := Unify(a, b)
		if e == api.OK {
			x, _ := s.Apply(a)
			y, _ := s.Apply(b)
			again, _ := s.Apply(x)
			if !terms.Same(x, y) || !terms.Same(x, again) {
				t.Fatal(terms.Text(a), terms.Text(b), show(s))
			}
		}
		x, _ := other.Apply(a)
		y, _ := other.Apply(b)
		if !terms.Same(x, y) {
			continue
		}
		if e != api.OK {
			t.Fatal("one is there", terms.Text(a), terms.Text(b), e)
		}
		found++
		var l, m []api.Type
		for v := range 4 {
			p, _ := s.Apply(api.Type{Var: v})
			q, _ := other.Apply(api.Type{Var: v})
			l, m = append(l, p), append(m, q)
		}
		if _, e := match.All(l, m); e != api.OK {
			t.Fatal("not the most general", terms.Text(a), terms.Text(b), show(s), show(other))
		}
	}
	if found < 100 {
		t.Error("too few", found)
	}
}
