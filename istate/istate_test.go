package istate

import (
	"math"
	"math/rand"
	"testing"

	"envoy/api"
	"envoy/fterms"
	"envoy/ftypes"
	"envoy/subst"
	"envoy/terms"
	"envoy/unify"
)

func read(s string) api.Type {
	t, e := terms.Read(s)
	if e != api.OK {
		panic(s)
	}
	return t
}

func hole(k int) api.Term { return api.Term{Kind: api.TermHole, N: k} }

func app(f, x api.Term) api.Term { return api.Term{Kind: api.TermApp, Kids: []api.Term{f, x}} }

func text(t api.Type) string { return ftypes.Text(api.Poly{Type: t}) }

func TestNext(t *testing.T) {
	s := New()
	if text(s.Var()) != "?0" || text(s.Var()) != "?1" || text(s.Fix()) != "!0" || text(s.Fix()) != "!1" || s.Name() != "#0" || s.Name() != "#1" || text(s.Var()) != "?2" {
		t.Error("next")
	}
	if s.Use() != 0 || s.Wait(api.Pred{Class: "C"}, 3) != 1 || s.Use() != 2 {
		t.Error("holes")
	}
}

func TestUnifyType(t *testing.T) {
	s := New()
	if !s.Unify(read("?0"), read("T ?1"), 5) || !s.Unify(read("?1 -> a"), read("Int -> ?2"), 6) {
		t.Error("Unify")
	}
	for in, want := range map[string]string{"?0": "T Int", "P ?1 ?2 ?3": "P Int ?2 ?3", "a": "?2", "?2": "?2"} {
		if got := text(s.Type(read(in))); got != want {
			t.Error(in, got)
		}
	}
	d := ftypes.Dict("C", read("?0"))
	if got := text(s.Type(d)); got != "{C} (T Int)" {
		t.Error(got)
	}
	if got := s.Type(api.Type{Con: "t"}); got.Con != "" || got.Var != 0 {
		t.Error(got)
	}
	if s.Unify(read("?1"), read("Bool"), 7) || s.Unify(read("?5"), read("Int"), 8) {
		t.Error("a failure")
	}
	if at, e := s.Done(); at != 7 || e != api.ErrMismatch {
		t.Error(at, e)
	}
	if got := text(s.Type(read("?5"))); got != "?5" {
		t.Error("behind a failure nothing changes", got)
	}
	if text(s.Var()) != "?0" || s.Name() != "#0" {
		t.Error("but there is a next one")
	}
}

func TestFailures(t *testing.T) {
	deep := read("?9")
	for range 99 {
		deep = api.Type{Con: "T", Args: []api.Type{deep}}
	}
	for i, c := range []struct {
		a, b api.Type
		e    api.Errno
	}{
		{read("?0"), read("T ?0"), api.ErrOccurs},
		{api.Type{Con: "t"}, read("a"), api.ErrLimit},
		{ftypes.Dict("C", read("a")), read("?1"), api.ErrLimit},
		{read("?9"), read("T a"), api.ErrLimit},
		{read("T ?8"), read("a"), api.ErrLimit},
	} {
		s := New()
		s.Unify(read("?8"), deep, 0)
		if s.Unify(c.a, c.b, 3) {
			t.Error(i)
		}
		if at, e := s.Done(); at != 3 || e != c.e {
			t.Error(i, at, e)
		}
	}
	s := New()
	if s.Fail(api.OK, 4) || s.Fail(api.ErrLimit, 5) {
		t.Error("Fail is false")
	}
	if at, e := s.Done(); at != 4 || e != api.ErrArg {
		t.Error(at, e)
	}
	if at, e := New().Done(); at != 0 || e != api.OK {
		t.Error(at, e)
	}
}

func TestWaits(t *testing.T) {
	s := New()
	p := api.Pred{Class: "C", Type: read("T ?0")}
	s.Wait(p, 1)
	s.Use()
	s.Wait(api.Pred{Class: "D", Type: api.Type{Con: "t"}}, 2)
	s.Wait(api.Pred{Class: "E", Type: read("?1")}, 3)
	p.Type.Args[0].Var = 7
	s.Unify(read("?0"), read("Int"), 0)
	l := s.Waits(-5)
	if len(l) != 3 || text(l[0].Pred.Type) != "T Int" || l[0].Pos != 1 || l[0].Hole != 0 || l[1].Hole != 2 || l[1].Pred.Type.Con != "t" || l[2].Hole != 3 || l[2].Pos != 3 {
		t.Error(l)
	}
	l[0].Pred.Type.Args[0].Con = "X"
	if text(s.Waits(0)[0].Pred.Type) != "T Int" {
		t.Error("memory is shared")
	}
	if l := s.Waits(2); len(l) != 1 || l[0].Pred.Class != "E" {
		t.Error(l)
	}
	if len(s.Waits(3)) != 0 || len(s.Waits(math.MaxInt)) != 0 {
		t.Error("beyond")
	}
	s.Forget(3)
	s.Forget(math.MaxInt)
	if len(s.Waits(0)) != 3 {
		t.Error("Forget beyond")
	}
	s.Forget(1)
	if h := s.Wait(api.Pred{Class: "F"}, 9); h != 4 {
		t.Error(h)
	}
	if l := s.Waits(0); len(l) != 2 || l[1].Pred.Class != "F" {
		t.Error(l)
	}
	s.Forget(math.MinInt)
	if len(s.Waits(0)) != 0 {
		t.Error("Forget all")
	}
}

func TestFillTerm(t *testing.T) {
	s := New()
	for range 4 {
		s.Use()
	}
	x := api.Term{Kind: api.TermVar, Name: "x"}
	for i, c := range []struct {
		hole int
		t    api.Term
		e    api.Errno
	}{
		{4, x, api.ErrArg}, {-1, x, api.ErrArg}, {math.MaxInt, x, api.ErrArg}, {0, api.Term{}, api.ErrArg}, {1, hole(1), api.ErrArg}, {1, app(x, hole(0)), api.ErrArg},
		{0, app(hole(1), hole(2)), api.OK}, {0, x, api.ErrTwice}, {0, api.Term{}, api.ErrArg}, {2, x, api.OK}, {3, hole(99), api.OK},
	} {
		if e := s.Fill(c.hole, c.t); e != c.e {
			t.Error(i, e)
		}
	}
	s.Unify(read("?0"), read("Int"), 0)
	big := read("T")
	for range 4095 {
		big.Args = append(big.Args, read("?7"))
	}
	u := api.Term{Kind: api.TermInst, Types: []api.Type{read("T ?0"), ftypes.Dict("C", read("?0")), read("?0"), read("a")}, Kids: []api.Term{app(hole(0), hole(3))}}
	got := s.Term(u)
	if fterms.Text(got) != "(((?1 x) ?99) [T Int, {C} Int, Int, a])" {
		t.Error(fterms.Text(got))
	}
	s.Unify(read("?7"), read("T Int"), 0)
	kept := s.Term(api.Term{Kind: api.TermInst, Types: []api.Type{big}, Kids: []api.Term{x}})
	if !terms.Same(kept.Types[0], big) {
		t.Error("a type that would be none stays as it is")
	}
	if got := s.Term(api.Term{}); got.Kind != 0 {
		t.Error(got)
	}
	if got := s.Term(api.Term{Kind: api.TermBind, Name: "x", Types: []api.Type{{}}, Kids: []api.Term{x}}); got.Kind != 0 {
		t.Error("a TermBind alone is no term")
	}
}

func TestTermLimit(t *testing.T) {
	s := New()
	for range 100 {
		s.Use()
	}
	for k := range 99 {
		s.Fill(k, app(hole(k+1), hole(k+1)))
	}
	if got := s.Term(hole(0)); got.Kind != 0 {
		t.Error("2^99 nodes")
	}
	if got := s.Term(hole(88)); got.Kind == 0 || fterms.Size(got) != 4095 {
		t.Error("4095 nodes", fterms.Size(got))
	}
	s = New()
	for range 500 {
		s.Use()
	}
	for k := range 499 {
		s.Fill(k, api.Term{Kind: api.TermAll, Kids: []api.Term{hole(k + 1)}})
	}
	if s.Term(hole(0)).Kind != 0 || s.Term(hole(100)).Kind == 0 || s.Term(hole(99)).Kind != 0 {
		t.Error("levels")
	}
}

func TestNil(t *testing.T) {
	var s *State
	s.Forget(0)
	if s.Var().Con != "" || s.Fix().Con != "" || s.Name() != "" || s.Type(read("T")).Con != "" || s.Unify(read("a"), read("a"), 0) || s.Fail(api.ErrArg, 1) || s.Wait(api.Pred{}, 0) != 0 || s.Use() != 0 || s.Waits(0) != nil {
		t.Error("nil")
	}
	if at, e := s.Done(); at != 0 || e != api.OK {
		t.Error(at, e)
	}
	if e := s.Fill(0, hole(1)); e != api.ErrArg {
		t.Error(e)
	}
	if s.Term(hole(0)).Kind != 0 {
		t.Error("Term")
	}
}

// TestAsWith: what is known is what unify's With tells, one behind the other.
func TestAsWith(t *testing.T) {
	r := rand.New(rand.NewSource(4))
	var random func(depth int) api.Type
	random = func(depth int) api.Type {
		if depth == 0 || r.Intn(2) == 0 {
			return api.Type{Var: -1 - r.Intn(8)}
		}
		if r.Intn(4) == 0 {
			return api.Type{Con: "U"}
		}
		return api.Type{Con: "P", Args: []api.Type{random(depth - 1), random(depth - 1)}}
	}
	for range 3000 {
		s, known := New(), subst.New()
		for step := range 6 {
			a, b := random(2), random(2)
			next, e := unify.With(known, a, b)
			if s.Unify(a, b, step) != (e == api.OK) {
				t.Fatal(text(a), text(b), e)
			}
			if e != api.OK {
				if at, f := s.Done(); at != step || f != e {
					t.Fatal(at, f, e)
				}
				break
			}
			known = next
			for v := range 8 {
				x, _ := known.Apply(api.Type{Var: -1 - v})
				if !terms.Same(x, s.Type(api.Type{Var: -1 - v})) {
					t.Fatal(v, text(x))
				}
			}
		}
	}
}
