package prims

import (
	"math"
	"testing"

	"envoy/api"
	"envoy/fsigs"
)

func n(k int) api.Term { return api.Term{Kind: api.TermInt, N: k} }

func con(name string, kids ...api.Term) api.Term {
	return api.Term{Kind: api.TermCon, Name: name, Kids: kids}
}

func pv(name string) api.Term { return api.Term{Kind: api.TermPatVar, Name: name} }

func pi(k int) api.Term { return api.Term{Kind: api.TermPatInt, N: k} }

func pc(name string, kids ...api.Term) api.Term {
	return api.Term{Kind: api.TermPatCon, Name: name, Kids: kids}
}

func TestIs(t *testing.T) {
	for _, name := range []string{"add", "sub", "mul", "quot", "rem", "eqInt", "ltInt", "", "div", "Add", "True"} {
		_, want := fsigs.Prim(name)
		if Is(name) != want {
			t.Error(name)
		}
	}
}

func TestDo(t *testing.T) {
	for _, c := range []struct {
		name string
		a, b int
		text string
		kind int
	}{
		{"add", math.MaxInt, 1, "-9223372036854775808", api.ResValue},
		{"sub", 2, 5, "-3", api.ResValue},
		{"mul", 6, 7, "42", api.ResValue},
		{"quot", -7, 2, "-3", api.ResValue},
		{"rem", -7, 2, "-1", api.ResValue},
		{"quot", 7, 0, "", api.ResZero},
		{"rem", 7, 0, "", api.ResZero},
		{"quot", math.MinInt, -1, "-9223372036854775808", api.ResValue},
		{"eqInt", 3, 3, "True", api.ResValue},
		{"eqInt", 3, 4, "False", api.ResValue},
		{"ltInt", 3, 4, "True", api.ResValue},
		{"ltInt", 4, 4, "False", api.ResValue},
		{"ltInt", 5, 4, "False", api.ResValue},
		{"div", 1, 1, "", api.ResStuck},
		{"", 1, 0, "", api.ResStuck},
	} {
		x, kind := Do(c.name, c.a, c.b)
		if kind != c.kind || Text(x) != c.text || kind != api.ResValue && x.Kind != 0 {
			t.Error(c, x, kind)
		}
	}
}

func TestText(t *testing.T) {
	lam, dict := api.Term{Kind: api.TermLam}, api.Term{Kind: api.TermDict}
	typed := con("K")
	typed.Types = []api.Type{{}}
	for want, x := range map[string]api.Term{
		"-5":                              n(-5),
		"K":                               typed,
		"K 1 (-2) L (M N) fun dict (K 0)": con("K", n(1), n(-2), con("L"), con("M", con("N")), lam, dict, con("K", n(0))),
		"fun":                             lam,
		"dict":                            dict,
	} {
		if got := Text(x); got != want {
			t.Errorf("%q, not %q", got, want)
		}
	}
	for i, x := range []api.Term{{}, {Kind: api.TermVar, Name: "x"}, con("K", n(1), con("L", api.Term{Kind: api.TermHole})), {Kind: api.TermAll}} {
		if got := Text(x); got != "" {
			t.Error(i, got)
		}
	}
}

func TestMatch(t *testing.T) {
	any := api.Term{Kind: api.TermPatAny}
	for i, c := range []struct {
		p, t api.Term
		want string
		ok   bool
	}{
		{pv("x"), n(1), "1;", true},
		{any, n(1), "", true},
		{pi(-1), n(-1), "", true},
		{pi(1), n(2), "", false},
		{pi(0), con("K"), "", false},
		{pc("K"), con("K"), "", true},
		{pc("K"), con("L"), "", false},
		{pc("K"), n(0), "", false},
		{pc("K", any), con("K"), "", false},
		{pc("K", pv("x"), pc("L", pv("y"), any)), con("K", n(1), con("L", con("M", n(2)), n(3))), "1;M 2;", true},
		{pc("K", pv("x"), pi(1)), con("K", n(1), n(2)), "", false},
		{pc("K", pv("f"), any), con("K", api.Term{Kind: api.TermLam}, api.Term{Kind: api.TermHole}), "fun;", true},
		{n(1), n(1), "", false},
		{pi(0), api.Term{}, "", false},
	} {
		l, ok := Match(c.p, c.t)
		got := ""
		for _, x := range l {
			got += Text(x) + ";"
		}
		if got != c.want || ok != c.ok {
			t.Error(i, got, ok)
		}
	}
	x := con("K", n(1))
	l, _ := Match(pv("x"), x)
	l[0].Kids[0].N = 9
	if Text(x) != "K 1" {
		t.Error("memory is shared")
	}
}
