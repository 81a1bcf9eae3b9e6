package groups

import (
	"slices"
	"strconv"
	"strings"
	"testing"

	"envoy/api"
	"envoy/pdecls"
)

func read(t *testing.T, s string) []api.Node {
	t.Helper()
	n, at, e := pdecls.Program(s)
	if e != api.OK {
		t.Fatalf("%q: %d %d", s, at, e)
	}
	return n.Kids
}

func TestGroups(t *testing.T) {
	for _, c := range []struct {
		s    string
		want [][]int
	}{
		{"", nil},
		{"f = g; g = f; h = f", [][]int{{0, 1}, {2}}},
		{"h = f; f = g; g = f", [][]int{{1, 2}, {0}}},
		{"a = b; b = c; c = 1; d = 2", [][]int{{2}, {1}, {0}, {3}}},
		{"a = b; x :: t; b = a; b :: t", [][]int{{0}, {2}}},
		{"a = b; b :: t; b = a", [][]int{{0}, {2}}},
		{"data D = D; b = a; a = \\ b -> b", [][]int{{2}, {1}}},
		{"x = 1; y = x; x = y", [][]int{{0}, {1, 2}}},
		{"x = y; y = 1; y = x", [][]int{{0, 2}, {1}}},
		{"x = let { y = z } in y; y = x; z = 1", [][]int{{2}, {0}, {1}}},
	} {
		if got := Groups(read(t, c.s)); !slices.EqualFunc(got, c.want, slices.Equal[[]int]) {
			t.Errorf("%q: %v, not %v", c.s, got, c.want)
		}
	}
}

func TestAThousand(t *testing.T) {
	var b strings.Builder
	for i := range 1000 {
		b.WriteString("x" + strconv.Itoa(i) + " = x" + strconv.Itoa((i+1)%1000) + ";")
	}
	l := read(t, b.String())
	if g := Groups(l); len(g) != 1 || len(g[0]) != 1000 {
		t.Error("a thousand")
	}
	if g := Groups(append(l, l[0])); g != nil {
		t.Error("one more than a thousand tells nothing")
	}
	sig := api.Node{Kind: api.SigNode, Text: "z"}
	if g := Groups(append(l, sig)); len(g) != 1 {
		t.Error("signatures are no bindings")
	}
}

func TestSignedLone(t *testing.T) {
	l := read(t, "x :: a; x = 1; y :: a; z :: b; x :: c; z = 1")
	if got := Signed(l); !slices.Equal(got, []string{"x", "y", "z", "x"}) {
		t.Error(got)
	}
	if at, ok := Lone(l); at != 15 || ok {
		t.Error(at, ok)
	}
	if at, ok := Lone(read(t, "x = 1; x :: a; y = 2")); at != 0 || !ok {
		t.Error(at, ok)
	}
	if at, ok := Lone(nil); at != 0 || !ok {
		t.Error(at, ok)
	}
}

func TestRecursive(t *testing.T) {
	l := read(t, "x = x; y = \\ y -> y; z :: a; z = \\ y -> z; w = x")
	for i, want := range map[int]bool{0: true, 1: false, 2: false, 3: true, 4: false, 5: false, -1: false, 1 << 62: false} {
		if got := Recursive(l, i); got != want {
			t.Errorf("%d: %v", i, got)
		}
	}
	if Recursive([]api.Node{{Kind: api.BindNode, Text: "x"}}, 0) || len(Groups([]api.Node{{Kind: api.BindNode, Text: "x"}})) != 1 {
		t.Error("a binding without an expression uses nothing")
	}
}
