package match

import (
	"testing"

	"envoy/api"
	"envoy/subst"
	"envoy/terms"
)

func read(s string) api.Type {
	t, e := terms.Read(s)
	if e != api.OK {
		panic(s)
	}
	return t
}

func show(s *subst.Subst) string {
	out := ""
	for _, p := range s.Pairs() {
		out += terms.Text(api.Type{Var: p.Var}) + "=" + terms.Text(p.Type) + ";"
	}
	return out
}

func TestMatch(t *testing.T) {
	for _, c := range []struct {
		a, b, want string
		e          api.Errno
	}{
		{"a", "a", "a=a;", api.OK},
		{"a", "b", "a=b;", api.OK},
		{"a -> b", "b -> a", "a=b;b=a;", api.OK},
		{"a -> a", "T -> T", "a=T;", api.OK},
		{"a -> a", "T -> U", "", api.ErrMismatch},
		{"a", "T a", "a=T a;", api.OK},
		{"P a b", "P (T b) c", "a=T b;b=c;", api.OK},
		{"P a a", "P b c", "", api.ErrMismatch},
		{"T", "a", "", api.ErrMismatch},
		{"T", "T", "", api.OK},
		{"T a", "T", "", api.ErrMismatch},
		{"T a", "T a b", "", api.ErrMismatch},
		{"!0", "!0", "", api.OK},
		{"!0", "!1", "", api.ErrMismatch},
		{"?0", "T", "?0=T;", api.OK},
	} {
		s, e := Match(read(c.a), read(c.b))
		if e != c.e || (e == api.OK) != (s != nil) || show(s) != c.want {
			t.Errorf("%s, %s: %s %d", c.a, c.b, show(s), e)
		}
		if Above(read(c.a), read(c.b)) != (c.e == api.OK) {
			t.Errorf("Above of %s, %s", c.a, c.b)
		}
		if e == api.OK {
			if x, e := s.Apply(read(c.a)); e != api.OK || !terms.Same(x, read(c.b)) {
				t.Errorf("%s, %s: the pattern is %s", c.a, c.b, terms.Text(x))
			}
		}
	}
	bad := api.Type{Con: "t"}
	if s, e := Match(bad, read("T")); s != nil || e != api.ErrArg || Above(bad, read("T")) {
		t.Error("no term")
	}
	if s, e := Match(read("T"), bad); s != nil || e != api.ErrArg || Above(read("a"), bad) {
		t.Error("no term")
	}
}

func TestAll(t *testing.T) {
	l := []api.Type{read("a"), read("T a b")}
	if s, e := All(l, []api.Type{read("U"), read("T U V")}); e != api.OK || show(s) != "a=U;b=V;" {
		t.Error(show(s), e)
	}
	if s, e := All(l, []api.Type{read("U"), read("T V V")}); s != nil || e != api.ErrMismatch {
		t.Error(e)
	}
	if s, e := All(l, l[:1]); s != nil || e != api.ErrMismatch {
		t.Error(e)
	}
	if s, e := All(l, []api.Type{{Con: "t"}}); s != nil || e != api.ErrArg {
		t.Error(e)
	}
	if s, e := All(nil, nil); e != api.OK || s == nil || show(s) != "" {
		t.Error(e)
	}
}

func TestAlike(t *testing.T) {
	for _, c := range []struct {
		a, b string
		want bool
	}{{"a -> b", "b -> a", true}, {"a -> b", "c -> c", false}, {"a", "T", false}, {"T ?0", "T a", true}} {
		if Alike(read(c.a), read(c.b)) != c.want || Alike(read(c.b), read(c.a)) != c.want {
			t.Errorf("%s, %s", c.a, c.b)
		}
	}
}

func TestMemoryIsNew(t *testing.T) {
	x := read("T a")
	s, _ := Match(read("b"), x)
	x.Args[0].Var = 9
	if show(s) != "b=T a;" {
		t.Error(show(s))
	}
}
