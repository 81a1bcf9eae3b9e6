package uses

import (
	"slices"
	"strconv"
	"testing"

	"envoy/api"
	"envoy/pdecls"
	"envoy/pexps"
)

func read(t *testing.T, s string) api.Node {
	t.Helper()
	n, at, e := pexps.Exp(s)
	if e != api.OK {
		t.Fatalf("%q: %d %d", s, at, e)
	}
	return n
}

func show(l []api.Use) string {
	s := ""
	for _, u := range l {
		s += u.Name + "@" + strconv.Itoa(u.Pos) + " "
	}
	return s
}

func TestUses(t *testing.T) {
	for _, c := range []struct {
		s, uses string
		free    []string
	}{
		{"x", "x@0 ", []string{"x"}},
		{"\\ x -> f x y", "f@7 y@11 ", []string{"f", "y"}},
		{"(\\ x -> x) x", "x@11 ", []string{"x"}},
		{"g f g", "g@0 f@2 g@4 ", []string{"f", "g"}},
		{"let { f = g f; g :: a; h = \\ g -> g } in f g h", "g@10 g@43 ", []string{"g"}},
		{"let { f = g; g = f } in f", "", nil},
		{"case x of { K x y -> x z; y -> y x }", "x@5 z@23 x@33 ", []string{"x", "z"}},
		{"if a then b else \\ a -> a", "a@3 b@10 ", []string{"a", "b"}},
		{"K 1", "", nil},
		{"let { x = 1 } in \\ y -> case y of { z -> x y z w }", "w@47 ", []string{"w"}},
	} {
		n := read(t, c.s)
		if got := show(Uses(n)); got != c.uses {
			t.Errorf("%q: %s", c.s, got)
		}
		if got := Free(n); !slices.Equal(got, c.free) {
			t.Errorf("%q: %v", c.s, got)
		}
	}
}

func TestCons(t *testing.T) {
	if got := show(Cons(read(t, "f K (case L x of { M N _ -> \\ x -> K; y -> let { z :: T; z = O } in y })"))); got != "K@2 L@10 M@19 N@21 K@35 O@61 " {
		t.Error(got)
	}
}

func TestNoExpression(t *testing.T) {
	x := api.Node{Kind: api.ExpVar, Text: "x"}
	for _, n := range []api.Node{{}, {Kind: api.ExpApp, Kids: []api.Node{x}}, {Kind: api.BindNode, Text: "y", Kids: []api.Node{x}}, {Kind: api.ExpVar, Text: "X"}, {Kind: api.AltNode, Kids: []api.Node{x}}, {Kind: api.PatCon, Text: "K"}} {
		if len(Uses(n)) != 0 || len(Free(n)) != 0 || len(Cons(n)) != 0 {
			t.Error("a tree that is none uses something", n)
		}
	}
}

func TestBindsTwice(t *testing.T) {
	n, _, e := pdecls.Program("x = 1; y :: a; y = 2; data D = D; x = 3; y :: b")
	if e != api.OK {
		t.Fatal(e)
	}
	if got := Binds(n.Kids); !slices.Equal(got, []string{"x", "y", "x"}) {
		t.Error(got)
	}
	if at, ok := Twice(n.Kids); at != 34 || ok {
		t.Error(at, ok)
	}
	if at, ok := Twice(n.Kids[:4]); at != 0 || !ok {
		t.Error(at, ok)
	}
	if at, ok := Twice(append(n.Kids[1:3:3], n.Kids[5])); at != 41 || ok {
		t.Error(at, ok)
	}
	// Others of one text do not count.
	d := n.Kids[3]
	if _, ok := Twice([]api.Node{d, d}); !ok {
		t.Error("data")
	}
	if Binds(nil) != nil {
		t.Error("of none")
	}
}
