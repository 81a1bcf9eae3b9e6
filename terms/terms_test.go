package terms

import (
	"math"
	"slices"
	"strings"
	"testing"

	"envoy/api"
)

func v(n int) api.Type { return api.Type{Var: n} }

func c(con string, args ...api.Type) api.Type { return api.Type{Con: con, Args: args} }

func deep(n int) api.Type {
	t := v(0)
	for range n - 1 {
		t = c("T", t)
	}
	return t
}

func wide(n int) api.Type {
	t := c("T")
	for range n - 1 {
		t.Args = append(t.Args, v(0))
	}
	return t
}

// shared is a type of 2^n leaves in little memory.
func shared(n int) api.Type {
	t := v(0)
	for range n {
		t = c("->", t, t)
	}
	return t
}

func TestLegal(t *testing.T) {
	for i, x := range []api.Type{v(0), v(-3), v(math.MinInt), v(math.MaxInt), c("T"), c("T", v(1), c("U")), c("->", v(0), v(1)), c("!0"), c("!12"), c("!9223372036854775807"), deep(100), wide(4096), {Args: []api.Type{}}} {
		if !Legal(x) {
			t.Errorf("good %d", i)
		}
	}
	for i, x := range []api.Type{{Args: []api.Type{v(0)}}, c("t"), c("->"), c("->", v(0)), c("->", v(0), v(0), v(0)), {Con: "T", Var: 1}, {Con: "!0", Var: 1}, {Con: "->", Var: 1, Args: []api.Type{v(0), v(0)}}, c("!"), c("!01"), c("!-1"), c("!x"), c("!0", v(0)), c("!9223372036854775808"), c("{C}", v(0)), c("T", c("t")), deep(101), wide(4097), shared(200)} {
		if Legal(x) {
			t.Errorf("bad %d", i)
		}
	}
}

func TestSameSizeDepth(t *testing.T) {
	x := c("T", v(1), c("U", v(2)))
	if !Same(x, c("T", v(1), c("U", v(2)))) || !Same(v(0), api.Type{Args: []api.Type{}}) {
		t.Error("the same")
	}
	for i, y := range []api.Type{c("T", v(1), c("U", v(3))), c("T", v(1)), c("V", v(1), c("U", v(2))), {Con: "T", Var: 1, Args: x.Args}, v(1)} {
		if Same(x, y) || Same(y, x) {
			t.Error("not the same", i)
		}
	}
	if Size(x) != 4 || Depth(x) != 3 || Size(v(0)) != 1 || Depth(v(0)) != 1 {
		t.Error(Size(x), Depth(x))
	}
}

func TestVarsHas(t *testing.T) {
	x := c("T", v(3), c("U", v(-1), v(3)), v(0))
	if got := Vars(x); !slices.Equal(got, []int{3, -1, 0}) {
		t.Error(got)
	}
	odd := api.Type{Var: 5, Args: []api.Type{v(6), {Con: "T", Var: 9}}}
	if got := Vars(odd); !slices.Equal(got, []int{5, 6}) {
		t.Error(got)
	}
	if !Has(x, -1) || !Has(odd, 5) || !Has(odd, 6) || Has(odd, 9) || Has(x, 1) || Has(c("T"), 0) || Vars(c("T")) != nil {
		t.Error("Has")
	}
}

func TestFunSplit(t *testing.T) {
	args := []api.Type{v(0), c("->", v(1), v(2))}
	f := Fun(args, c("T", v(3)))
	if Text(f) != "a -> (b -> c) -> T d" {
		t.Error(Text(f))
	}
	l, to := Split(f)
	if len(l) != 2 || !Same(l[0], args[0]) || !Same(l[1], args[1]) || !Same(to, c("T", v(3))) {
		t.Error(l, to)
	}
	if l, to := Split(Fun(nil, v(7))); len(l) != 0 || !Same(to, v(7)) {
		t.Error(l, to)
	}
	if l, to := Split(c("->", v(0))); len(l) != 0 || !Same(to, c("->", v(0))) {
		t.Error("no function", l, to)
	}
	l[1].Args[0].Var = 9
	to.Args[0].Var = 9
	if args[1].Args[0].Var != 1 || f.Args[1].Args[0].Args[0].Var != 1 || f.Args[1].Args[1].Args[0].Var != 3 {
		t.Error("memory is shared")
	}
	f.Args[1].Args[0].Args[0].Var = 8
	if args[1].Args[0].Var != 1 {
		t.Error("Fun shares its args")
	}
}

// odd is a -> that is no term, for its Var.
func odd(n int, from, to api.Type) api.Type {
	return api.Type{Con: "->", Var: n, Args: []api.Type{from, to}}
}

func TestSplitOfNoTerm(t *testing.T) {
	for _, n := range []int{-1, 1, 5, math.MinInt, math.MaxInt} {
		in := odd(n, v(1), odd(n, c("T", v(2)), v(3)))
		if Legal(in) {
			t.Error("a term", n)
		}
		l, to := Split(Fun([]api.Type{v(0)}, in))
		if len(l) != 3 || !Same(l[0], v(0)) || !Same(l[1], v(1)) || !Same(l[2], c("T", v(2))) || !Same(to, v(3)) {
			t.Error(n, l, to)
		}
		l[2].Args[0].Var = 9
		if in.Args[1].Args[0].Args[0].Var != 2 {
			t.Error("memory is shared")
		}
		in = odd(n, odd(n, v(1), v(2)), v(3))
		if l, to := Split(in); len(l) != 1 || !Same(l[0], in.Args[0]) || !Same(to, v(3)) {
			t.Error("a -> to the left", n, l, to)
		}
	}
	for i, x := range []api.Type{c("->"), c("->", v(0)), c("->", v(0), v(1), v(2)), c("T", v(0), v(1)), {Var: -1, Args: []api.Type{v(0), v(1)}}} {
		if l, to := Split(x); len(l) != 0 || !Same(to, x) {
			t.Error("no ->", i, l, to)
		}
	}
}

func TestText(t *testing.T) {
	for s, x := range map[string]api.Type{
		"a -> T ?0":              c("->", v(0), c("T", v(-1))),
		"b1":                     v(27),
		"?9223372036854775807":   v(math.MinInt),
		"(a -> b) -> c":          c("->", c("->", v(0), v(1)), v(2)),
		"a -> b -> c":            c("->", v(0), c("->", v(1), v(2))),
		"T (U a) !3 V (a -> ?1)": c("T", c("U", v(0)), c("!3"), c("V"), c("->", v(0), v(-2))),
		"T a -> U":               c("->", c("T", v(0)), c("U")),
		"":                       c("t"),
	} {
		if got := Text(x); got != s {
			t.Errorf("%q, not %q", got, s)
		}
		back, e := Read(s)
		if s == "" {
			if e != api.ErrParse || back.Con != "" {
				t.Error("Read of nothing", back, e)
			}
			continue
		}
		if e != api.OK || !Same(back, x) {
			t.Errorf("Read(%q): %v %d", s, back, e)
		}
	}
	if Text(deep(101)) != "" || Text(wide(4097)) != "" {
		t.Error("of no terms")
	}
}

func TestReadGreat(t *testing.T) {
	arrows := Fun(slices.Repeat([]api.Type{v(0)}, 99), v(1))
	left := v(0)
	for range 99 {
		left = c("->", left, v(1))
	}
	for i, x := range []api.Type{deep(100), wide(4096), arrows, left} {
		if back, e := Read(Text(x)); e != api.OK || !Same(back, x) {
			t.Error(i, e)
		}
	}
	if x, e := Read("e177372539170284150"); e != api.OK || x.Var != 1<<62 {
		t.Error("2^62", x, e)
	}
}

func TestReadRefused(t *testing.T) {
	for _, s := range []string{"", " a", "a ", "a  -> b", "a->b", "(a)", "(T a)", "T (a)", "T (U)", "a b", "(a -> b)", "a -> (b -> c)", "(T a) -> b", "T  a", "T a)", "(T a", "((a -> b)) -> c", "!01", "!", "!0 a", "?", "?01", "?-1", "?9223372036854775808",
		"a0", "a01", "aa", "f177372539170284150", "data", "x'", "_", "{C} a", "a ->", "-> a", "T ->", "->", "->a", "T -> ", "(a -> b) c",
		strings.Repeat("(", 1<<20), strings.Repeat("a -> ", 1<<18) + "a", strings.Repeat("T (", 100) + "T a" + strings.Repeat(")", 100), "T" + strings.Repeat(" a", 4096)} {
		if x, e := Read(s); e != api.ErrParse || !Same(x, v(0)) {
			t.Errorf("Read(%.30q): %v %d", s, x, e)
		}
	}
}
