package scheme

import (
	"math"
	"slices"
	"strings"
	"testing"

	"envoy/api"
	"envoy/names"
	"envoy/terms"
)

func read(s string) api.Type {
	t, e := terms.Read(s)
	if e != api.OK {
		panic(s)
	}
	return t
}

// of makes a scheme of texts: "2: C a, D b => a -> b".
func of(s string) api.Scheme {
	count, rest, _ := strings.Cut(s, ": ")
	out := api.Scheme{}
	for _, d := range count {
		out.N = out.N*10 + int(d-'0')
	}
	context, body, ok := strings.Cut(rest, " => ")
	if !ok {
		out.Type = read(rest)
		return out
	}
	out.Type = read(body)
	for _, p := range strings.Split(context, ", ") {
		class, at, _ := strings.Cut(strings.NewReplacer("(", "", ")", "").Replace(p), " ")
		out.Preds = append(out.Preds, api.Pred{Class: class, Type: read(at)})
	}
	return out
}

func TestLegal(t *testing.T) {
	for _, s := range []string{"0: a", "1: a", "2: a -> b", "2: C b => a", "0: C T => ?0", "1: c -> a", "1: C a => T"} {
		if !Legal(of(s)) {
			t.Error(s)
		}
	}
	for _, s := range []string{"1: b", "2: a", "1: T", "2: C b => b", "3: a -> b", "4097: a"} {
		if Legal(of(s)) {
			t.Error(s)
		}
	}
	for i, s := range []api.Scheme{{N: -1}, {N: math.MaxInt}, {N: math.MinInt}, {Type: api.Type{Con: "t"}}, {Preds: []api.Pred{{Class: "c"}}}, {Preds: []api.Pred{{Class: "C", Type: api.Type{Con: "t"}}}}} {
		if Legal(s) {
			t.Error(i)
		}
	}
}

func pred(class, s string) api.Pred { return api.Pred{Class: class, Type: read(s)} }

func TestClose(t *testing.T) {
	for _, c := range []struct {
		t     string
		preds []api.Pred
		keep  []int
		want  string
		n     int
	}{
		{"h -> f", nil, []int{5}, "a -> ?5", 1},
		{"?0 -> c -> ?0", nil, nil, "a -> b -> a", 2},
		{"c", []api.Pred{pred("C", "d"), pred("D", "T c b")}, []int{1}, "(C b, D (T a ?1)) => a", 2},
		{"?3 -> a", nil, []int{-4, 0}, "?3 -> ?0", 0},
		{"a", nil, []int{7}, "a", 1},
		{"T", nil, nil, "T", 0},
	} {
		s := Close(read(c.t), c.preds, c.keep)
		if Text(s) != c.want || s.N != c.n {
			t.Errorf("%s: %s %d", c.t, Text(s), s.N)
		}
	}
	zero := api.Scheme{}
	for i, s := range []api.Scheme{Close(api.Type{Con: "t"}, nil, nil), Close(read("T"), []api.Pred{{Class: "c"}}, nil), Close(read("T"), manyPreds(4097), nil)} {
		if s.N != 0 || s.Preds != nil || !terms.Same(s.Type, zero.Type) {
			t.Error(i, s)
		}
	}
	if s := Close(read("T"), manyPreds(4096), nil); s.N != 4096 {
		t.Error(s.N)
	}
}

func manyPreds(n int) []api.Pred {
	var l []api.Pred
	for v := range n {
		l = append(l, pred("C", names.Letter(v)))
	}
	return l
}

func TestOpen(t *testing.T) {
	x, l, next, e := Open(of("2: C b => a -> b -> c -> ?0"), 5)
	if e != api.OK || next != 7 || terms.Text(x) != "f -> g -> c -> ?0" || len(l) != 1 || terms.Text(l[0].Type) != "g" || l[0].Class != "C" {
		t.Error(terms.Text(x), l, next, e)
	}
	if _, _, next, e := Open(of("1: a"), 1<<40); e != api.OK || next != 1<<40+1 {
		t.Error(next, e)
	}
	for _, first := range []int{-1, 1<<40 + 1, math.MaxInt, math.MinInt} {
		if x, l, next, e := Open(of("1: a -> a"), first); e != api.ErrArg || next != 0 || l != nil || x.Con != "" {
			t.Error(first, e)
		}
	}
	if _, _, _, e := Open(of("2: a"), 0); e != api.ErrArg {
		t.Error(e)
	}
}

func TestFree(t *testing.T) {
	if got := Free(of("2: C d, D ?0 => a -> c -> b -> c")); !slices.Equal(got, []int{2, 3, -1}) {
		t.Error(got)
	}
	if got := Free(of("1: a")); len(got) != 0 {
		t.Error(got)
	}
}

func TestSame(t *testing.T) {
	for _, c := range []struct {
		a, b string
		want bool
	}{
		{"2: a -> b", "2: b -> a", true},
		{"2: a -> b -> a", "2: b -> a -> b", true},
		{"2: a -> b -> a", "2: b -> a -> a", false},
		{"2: C a, C b => a -> b", "2: C b, C a => b -> a", true},
		{"2: C a, C b => a -> b", "2: C b, C a => a -> b", false},
		{"1: C a => a", "1: D a => a", false},
		{"1: C a => a", "1: a", false},
		{"1: a -> ?0", "1: a -> ?0", true},
		{"1: a -> ?0", "1: a -> ?1", false},
		{"1: a -> b", "2: a -> b", false},
		{"0: a", "0: a", true},
		{"0: a", "0: b", false},
		{"1: a", "1: T", false},
		{"2: a", "2: a", false},
	} {
		if Same(of(c.a), of(c.b)) != c.want || Same(of(c.b), of(c.a)) != c.want {
			t.Errorf("%s, %s", c.a, c.b)
		}
	}
}

func TestAbove(t *testing.T) {
	for _, c := range []struct {
		a, b string
		want bool
	}{
		{"1: a", "1: T a", true},
		{"1: T a", "1: a", false},
		{"2: a -> b", "1: a -> a", true},
		{"1: a -> a", "2: a -> b", false},
		{"1: C a => a", "0: T", false},
		{"1: C a => a", "0: C T => T", true},
		{"1: C a => a", "0: D U, C T => T", true},
		{"1: a", "0: C T => T", true},
		{"0: a", "0: a", true},
		{"0: a", "0: T", false},
		{"1: a -> ?0", "0: T -> ?0", true},
		{"1: a -> ?0", "0: T -> ?1", false},
		{"1: a", "0: b", true},
		// Variables that the type does not have are looked for.
		{"2: C b => a", "0: C T => U", true},
		{"2: C b, D b => a", "0: C T, D V => U", false},
		{"2: C b, D b => a", "0: C T, C V, D V => U", true},
		{"3: C b, D (P b c), C c => a", "0: C T, C V, D (P T V), D (P V V) => U", true},
		{"3: C b, E c, D (P b c) => a", "0: C T, E V, D (P T T), D (P V V) => U", false},
		{"2: a", "0: T", false},
	} {
		if Above(of(c.a), of(c.b)) != c.want {
			t.Errorf("%s, %s", c.a, c.b)
		}
	}
	if Above(of("2: a"), of("0: T")) || Above(of("0: T"), of("2: T")) {
		t.Error("what is not Legal")
	}
	many := api.Scheme{N: 1000, Type: read("T"), Preds: manyPreds(1000)}
	if !Above(many, of("0: C U => T")) || Above(many, of("0: D U => T")) {
		t.Error("a thousand")
	}
}

func TestText(t *testing.T) {
	for in, want := range map[string]string{"1: a": "a", "1: C a => a -> T": "C a => a -> T", "2: C a, D b => T a b": "(C a, D b) => T a b", "2: a": ""} {
		if got := Text(of(in)); got != want {
			t.Errorf("%q", got)
		}
	}
}

func TestMemoryIsNew(t *testing.T) {
	s := of("1: C a => T a")
	s.Preds[0].Type = read("T a")
	x, l, _, _ := Open(s, 3)
	x.Args[0].Var, l[0].Type.Args[0].Var = 8, 9
	c := Close(s.Type, s.Preds, nil)
	c.Type.Args[0].Var, c.Preds[0].Type.Args[0].Var = 8, 9
	if s.Type.Args[0].Var != 0 || s.Preds[0].Type.Args[0].Var != 0 {
		t.Error("memory is shared")
	}
}
