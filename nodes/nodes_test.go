package nodes

import (
	"math"
	"testing"

	"envoy/api"
)

func node(kind int, text string, kids ...api.Node) api.Node {
	return api.Node{Kind: kind, Text: text, Kids: kids}
}

func number(kind, n int) api.Node { return api.Node{Kind: kind, N: n} }

func counted(kind int, text string, n int, kids ...api.Node) api.Node {
	return api.Node{Kind: kind, Text: text, N: n, Kids: kids}
}

var (
	a    = node(api.TypeVar, "a")
	tA   = node(api.TypeCon, "T", a)
	fun  = node(api.TypeCon, "->", a, tA)
	pred = node(api.PredNode, "C", a)
	qual = node(api.QualNode, "", pred, fun)
	sig  = node(api.SigNode, "x", qual)
	x    = node(api.ExpVar, "x")
	one  = number(api.ExpInt, 1)
	bind = node(api.BindNode, "x", one)
	patX = node(api.PatVar, "x")
	alt  = node(api.AltNode, "", node(api.PatCon, "K", patX, node(api.PatAny, ""), number(api.PatInt, 3)), x)
	con  = node(api.ConNode, "K", a, tA)
)

func chain(depth int) api.Node {
	n := x
	for range depth - 1 {
		n = node(api.ExpLam, "x", n)
	}
	return n
}

func TestSizeDepth(t *testing.T) {
	n := node(api.ExpApp, "", x, node(api.ExpApp, "", x, one))
	if Size(n) != 5 || Depth(n) != 3 {
		t.Error(Size(n), Depth(n))
	}
	if Size(api.Node{}) != 1 || Depth(api.Node{}) != 1 {
		t.Error("the zero one")
	}
	if Depth(node(api.ExpApp, "", x, x)) != 2 {
		t.Error("the example")
	}
	if Depth(chain(100000)) != 100000 || Size(chain(100000)) != 100000 {
		t.Error("a deep one")
	}
}

func TestSameStrip(t *testing.T) {
	m := api.Node{Kind: api.ExpApp, Pos: 3, Kids: []api.Node{{Kind: api.ExpVar, Pos: 7, Text: "x"}, {Kind: api.ExpInt, Pos: 9, N: 1}}}
	n := node(api.ExpApp, "", x, one)
	if !Same(m, n) || !Same(n, m) {
		t.Error("the same, but for Pos")
	}
	for _, o := range []api.Node{node(api.ExpApp, "", x, x), node(api.ExpApp, "", x), node(api.ExpIf, "", x, one), node(api.ExpApp, "y", x, one), counted(api.ExpApp, "", 1, x, one), node(api.ExpApp, "", x, number(api.ExpInt, 2))} {
		if Same(m, o) || Same(o, m) {
			t.Error("not the same", o)
		}
	}
	s := Strip(m)
	if s.Pos != 0 || s.Kids[0].Pos != 0 || s.Kids[1].Pos != 0 || !Same(s, m) {
		t.Error(s)
	}
	s.Kids[0].Text = "z"
	if m.Kids[0].Text != "x" || m.Pos != 3 || m.Kids[0].Pos != 7 {
		t.Error("Strip shares, or changes, its tree")
	}
}

func check(t *testing.T, name string, is func(api.Node) bool, good, bad []api.Node) {
	for i, n := range good {
		if !is(n) {
			t.Errorf("%s: good %d is refused: %v", name, i, n)
		}
	}
	for i, n := range bad {
		if is(n) {
			t.Errorf("%s: bad %d is taken: %v", name, i, n)
		}
	}
}

func TestType(t *testing.T) {
	deep := a
	for range 99 {
		deep = node(api.TypeCon, "T", deep)
	}
	check(t, "Type", Type,
		[]api.Node{a, tA, fun, node(api.TypeCon, "T"), node(api.TypeCon, "T", fun, fun, a), deep, {Kind: api.TypeVar, Text: "a", Pos: -9}},
		[]api.Node{{}, x, pred, qual, patX, node(api.TypeVar, "A"), node(api.TypeVar, "data"), node(api.TypeVar, "a", a), counted(api.TypeVar, "a", 1),
			node(api.TypeCon, "->", a), node(api.TypeCon, "->", a, a, a), node(api.TypeCon, "t"), node(api.TypeCon, ""), counted(api.TypeCon, "T", 1),
			node(api.TypeCon, "T", x), node(api.TypeCon, "T", deep), node(api.TypeCon, "{C}", a), node(api.TypeCon, "!0")})
}

func TestPat(t *testing.T) {
	check(t, "Pat", Pat,
		[]api.Node{patX, node(api.PatAny, ""), number(api.PatInt, 0), number(api.PatInt, math.MaxInt), node(api.PatCon, "K"), alt.Kids[0]},
		[]api.Node{{}, x, one, number(api.PatInt, -1), number(api.PatAny, 1), node(api.PatAny, "_"), node(api.PatAny, "", patX), node(api.PatVar, "_"), node(api.PatVar, "x", patX),
			counted(api.PatVar, "x", 1), node(api.PatInt, "1"), node(api.PatInt, "", patX), node(api.PatCon, "k"), counted(api.PatCon, "K", 1), node(api.PatCon, "K", x)})
}

func TestExp(t *testing.T) {
	check(t, "Exp", Exp,
		[]api.Node{x, node(api.ExpCon, "K"), one, number(api.ExpInt, 0), node(api.ExpApp, "", x, one), node(api.ExpLam, "x", x), node(api.ExpLet, "", bind, x),
			node(api.ExpLet, "", sig, bind, sig, x), node(api.ExpCase, "", x, alt), node(api.ExpCase, "", x, alt, alt), node(api.ExpIf, "", x, x, x), chain(100)},
		[]api.Node{{}, patX, a, bind, alt, node(api.ExpVar, "X"), node(api.ExpVar, "x", x), counted(api.ExpVar, "x", 1), node(api.ExpCon, "k"), node(api.ExpCon, "K", x), number(api.ExpInt, -1),
			node(api.ExpInt, "1"), node(api.ExpInt, "", x), node(api.ExpApp, "", x), node(api.ExpApp, "", x, x, x), node(api.ExpApp, "f", x, x), counted(api.ExpApp, "", 1, x, x),
			node(api.ExpLam, "x"), node(api.ExpLam, "x", x, x), node(api.ExpLam, "X", x), node(api.ExpLet, "", x), node(api.ExpLet, ""), node(api.ExpLet, "", bind, bind),
			node(api.ExpLet, "", x, x), node(api.ExpLet, "l", bind, x), node(api.ExpCase, "", x), node(api.ExpCase, "", x, x), node(api.ExpCase, "", alt, alt), node(api.ExpCase, "c", x, alt),
			node(api.ExpIf, "", x, x), node(api.ExpIf, "", x, x, x, x), node(api.ExpIf, "i", x, x, x), chain(101), node(api.ExpCase, "", x, node(api.AltNode, "", patX)),
			node(api.ExpCase, "", x, node(api.AltNode, "", x, x)), node(api.ExpCase, "", x, node(api.AltNode, "a", patX, x)), node(api.ExpLet, "", node(api.BindNode, "x"), x),
			node(api.ExpLet, "", node(api.SigNode, "x", a), x), node(api.ExpLet, "", node(api.SigNode, "x", node(api.QualNode, "")), x),
			node(api.ExpLet, "", node(api.SigNode, "x", node(api.QualNode, "", a, pred)), x), node(api.ExpLet, "", node(api.DataNode, "D", con), x)})
}

func TestDecl(t *testing.T) {
	data := counted(api.DataNode, "D", 1, a, con, node(api.ConNode, "L"))
	class := counted(api.ClassNode, "C", 1, pred, a, sig)
	inst := counted(api.InstNode, "C", 1, pred, tA, bind)
	check(t, "Decl", Decl,
		[]api.Node{bind, sig, data, class, inst, node(api.DataNode, "D", con), node(api.ClassNode, "C", a), node(api.InstNode, "C", fun),
			node(api.ProgNode, ""), node(api.ProgNode, "", bind, sig, data, class, inst), node(api.BindNode, "x", chain(99)), node(api.ProgNode, "", node(api.BindNode, "x", chain(98)))},
		[]api.Node{{}, x, a, con, alt, qual, node(api.BindNode, "X", x), node(api.BindNode, "x", x, x), counted(api.BindNode, "x", 1, x), counted(api.SigNode, "x", 1, qual), node(api.SigNode, "x", qual, qual),
			counted(api.DataNode, "D", 1, a), counted(api.DataNode, "D", 0, a, con), counted(api.DataNode, "D", 2, a, con), counted(api.DataNode, "D", -1, con), counted(api.DataNode, "D", math.MaxInt, con),
			node(api.DataNode, "d", con), counted(api.DataNode, "D", 1, tA, con), node(api.DataNode, "D", bind), node(api.DataNode, "D", node(api.ConNode, "k")), node(api.DataNode, "D", counted(api.ConNode, "K", 1)),
			counted(api.ClassNode, "C", 1, pred), node(api.ClassNode, "C", tA), node(api.ClassNode, "C", a, bind), node(api.ClassNode, "c", a), counted(api.ClassNode, "C", math.MinInt, a), counted(api.ClassNode, "C", math.MaxInt, a), node(api.ClassNode, "C"),
			counted(api.InstNode, "C", 1, pred), node(api.InstNode, "C", pred), node(api.InstNode, "C", a, sig), node(api.InstNode, "c", a), node(api.InstNode, "C"), counted(api.InstNode, "C", math.MaxInt, a),
			node(api.ProgNode, "p"), counted(api.ProgNode, "", 1), node(api.ProgNode, "", node(api.ProgNode, "")), node(api.ProgNode, "", x), node(api.BindNode, "x", chain(100)), node(api.ProgNode, "", node(api.BindNode, "x", chain(99)))})
}
