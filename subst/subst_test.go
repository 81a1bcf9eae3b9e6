package subst

import (
	"testing"

	"envoy/api"
	"envoy/terms"
)

func read(s string) api.Type {
	t, e := terms.Read(s)
	if e != api.OK {
		panic(s)
	}
	return t
}

func pair(v int, s string) api.Pair { return api.Pair{Var: v, Type: read(s)} }

func show(s *Subst) string {
	out := ""
	for _, p := range s.Pairs() {
		out += terms.Text(api.Type{Var: p.Var}) + "=" + terms.Text(p.Type) + ";"
	}
	return out
}

func wide(n int) api.Type {
	t := api.Type{Con: "T"}
	for range n - 1 {
		t.Args = append(t.Args, api.Type{Var: 0})
	}
	return t
}

func deep(n int) api.Type {
	t := api.Type{Var: 0}
	for range n - 1 {
		t = api.Type{Con: "T", Args: []api.Type{t}}
	}
	return t
}

func want(t *testing.T, got, want string) {
	t.Helper()
	if got != want {
		t.Errorf("%q, not %q", got, want)
	}
}

func TestNewGetSet(t *testing.T) {
	s := New(pair(2, "T"), pair(-1, "a"), pair(2, "U"), api.Pair{Var: 5, Type: api.Type{Con: "t"}}, pair(5, "V"))
	want(t, show(s), "?0=a;c=T;f=V;")
	if x, ok := s.Get(2); !ok || x.Con != "T" {
		t.Error(x, ok)
	}
	if x, ok := s.Get(0); ok || x.Con != "" {
		t.Error(x, ok)
	}
	if e := s.Set(2, read("U")); e != api.ErrTwice {
		t.Error(e)
	}
	if e := s.Set(2, api.Type{Con: "t"}); e != api.ErrArg {
		t.Error(e)
	}
	if e := s.Set(0, read("U a")); e != api.OK {
		t.Error(e)
	}
	want(t, show(s), "?0=a;a=U a;c=T;f=V;")
}

func TestApply(t *testing.T) {
	s := New(pair(0, "T b"), pair(1, "U"))
	x, e := s.Apply(read("a -> b -> c"))
	if e != api.OK {
		t.Error(e)
	}
	want(t, terms.Text(x), "T b -> U -> c")
	if x, e := s.Apply(api.Type{Con: "t"}); e != api.ErrArg || x.Con != "" {
		t.Error(x, e)
	}
	big := New(api.Pair{Var: 0, Type: wide(2048)})
	if x, e := big.Apply(api.Type{Con: "->", Args: []api.Type{{Var: 0}, wide(2047)}}); e != api.ErrLimit || x.Con != "" {
		t.Error("too great", e)
	}
	if _, e := big.Apply(api.Type{Con: "->", Args: []api.Type{{Var: 0}, wide(1)}}); e != api.OK {
		t.Error("great", e)
	}
	if x, e := New(api.Pair{Var: 1, Type: wide(2048)}).Apply(api.Type{Con: "->", Args: []api.Type{{Var: 1}, wide(2047)}}); e != api.OK || terms.Size(x) != 4096 {
		t.Error("the greatest", e)
	}
	tall := New(api.Pair{Var: 0, Type: deep(51)})
	if x, e := tall.Apply(deep(50)); e != api.OK || terms.Depth(x) != 100 {
		t.Error("the deepest", e)
	}
	if _, e := tall.Apply(deep(51)); e != api.ErrLimit {
		t.Error("too deep", e)
	}
	var none *Subst
	if x, e := none.Apply(read("a")); e != api.OK || x.Var != 0 {
		t.Error(x, e)
	}
}

func TestPreds(t *testing.T) {
	s := New(pair(0, "T"))
	l, e := s.Preds([]api.Pred{{Class: "C", Type: read("a")}, {Class: "", Type: read("U a b")}})
	if e != api.OK || len(l) != 2 || l[0].Class != "C" || terms.Text(l[0].Type) != "T" || l[1].Class != "" || terms.Text(l[1].Type) != "U T b" {
		t.Error(l, e)
	}
	if l, e := s.Preds([]api.Pred{{Class: "C", Type: read("a")}, {Class: "C", Type: api.Type{Con: "t"}}}); e != api.ErrArg || l != nil {
		t.Error(l, e)
	}
	big := New(api.Pair{Var: 0, Type: wide(4096)})
	if l, e := big.Preds([]api.Pred{{Type: read("T a")}, {Type: api.Type{Con: "t"}}}); e != api.ErrLimit || l != nil {
		t.Error("the first error", l, e)
	}
}

func TestThen(t *testing.T) {
	s := New(pair(0, "T b c"), pair(3, "d"))
	u := New(pair(1, "U a"), pair(0, "X"), pair(4, "Y"))
	both, e := s.Then(u)
	if e != api.OK {
		t.Error(e)
	}
	want(t, show(both), "a=T (U a) c;b=U a;d=d;e=Y;")
	want(t, show(s), "a=T b c;d=d;")
	want(t, show(u), "a=X;b=U a;e=Y;")
	both.Set(9, read("Z"))
	want(t, show(s)+show(u), "a=T b c;d=d;a=X;b=U a;e=Y;")
	if x, e := New(pair(5, "T a a")).Then(New(api.Pair{Var: 0, Type: wide(2048)})); e != api.ErrLimit || x != nil {
		t.Error(x, e)
	}
	var none *Subst
	x, e := none.Then(u)
	y, f := u.Then(none)
	if e != api.OK || f != api.OK || x == u || y == u {
		t.Error(e, f)
	}
	want(t, show(x), show(u))
	want(t, show(y), show(u))
	if z, e := none.Then(nil); e != api.OK || z == nil || show(z) != "" {
		t.Error("none of none")
	}
}

func TestWithin(t *testing.T) {
	s := New(pair(0, "T"), pair(1, "U"), pair(-2, "V"))
	want(t, show(s.Within([]int{1, 7, -2, 1})), "?1=V;b=U;")
	want(t, show(s.Within(nil)), "")
}

func TestNil(t *testing.T) {
	var s *Subst
	if _, ok := s.Get(0); ok {
		t.Error("Get")
	}
	if e := s.Set(0, read("T")); e != api.ErrArg {
		t.Error(e)
	}
	if s.Pairs() != nil || show(s.Within([]int{0})) != "" {
		t.Error("Pairs")
	}
	if l, e := s.Preds([]api.Pred{{Class: "C"}}); e != api.OK || len(l) != 1 {
		t.Error(l, e)
	}
}

func TestMemoryIsNew(t *testing.T) {
	x := read("T a")
	s := New(api.Pair{Var: 0, Type: x})
	x.Args[0].Var = 7
	y, _ := s.Get(0)
	y.Args[0].Var = 8
	z, _ := s.Apply(read("P a a"))
	z.Args[0].Args[0].Var = 9
	s.Pairs()[0].Type.Args[0].Var = 6
	s.Within([]int{0}).types[0].Args[0].Var = 5
	w, _ := s.Then(nil)
	w.types[0].Args[0].Var = 4
	want(t, show(s), "a=T a;")
	want(t, terms.Text(z), "P (T j) (T a)")
}
