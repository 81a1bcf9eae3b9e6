package names

import (
	"math"
	"testing"
)

func TestVar(t *testing.T) {
	for _, s := range []string{"x", "_x", "__", "_'", "x'", "aB9_'", "dat", "datas", "z", "_1"} {
		if !Var(s) || Con(s) {
			t.Errorf("%q is a Var alone", s)
		}
	}
	for _, s := range []string{"", "_", "X", "1x", "'x", "x y", "x-", "x\u00e9", "\u00e9", "data", "class", "instance", "where", "let", "in", "case", "of", "if", "then", "else"} {
		if Var(s) {
			t.Errorf("%q is no Var", s)
		}
	}
}

func TestCon(t *testing.T) {
	for _, s := range []string{"X", "Zed", "A_'9z", "Data"} {
		if !Con(s) || Var(s) {
			t.Errorf("%q is a Con alone", s)
		}
	}
	for _, s := range []string{"", "x", "_X", "X-", "X y", "->", "{C}", "!0", "\u00c9"} {
		if Con(s) {
			t.Errorf("%q is no Con", s)
		}
	}
}

func TestReserved(t *testing.T) {
	for _, s := range []string{"data", "class", "instance", "where", "let", "in", "case", "of", "if", "then", "else"} {
		if !Reserved(s) {
			t.Errorf("%q is reserved", s)
		}
	}
	for _, s := range []string{"", "dat", "datb", "Data", "i", "ifs", "x", "_"} {
		if Reserved(s) {
			t.Errorf("%q is not reserved", s)
		}
	}
}

func TestLetter(t *testing.T) {
	for n, s := range map[int]string{0: "a", 25: "z", 26: "a1", 27: "b1", 52: "a2", 26*10 + 3: "d10", -1: "", math.MinInt: ""} {
		if got := Letter(n); got != s {
			t.Errorf("Letter(%d): %q", n, got)
		}
	}
	if got := Letter(math.MaxInt); got != "h354745078340568300" {
		t.Errorf("Letter of the greatest: %q", got)
	}
}

func TestNumberIsLetterBackAgain(t *testing.T) {
	for _, n := range []int{0, 1, 25, 26, 27, 51, 52, 1000, 1 << 62, 1<<62 - 1} {
		if got := Number(Letter(n)); got != n {
			t.Errorf("Number(Letter(%d)): %d", n, got)
		}
	}
	for _, s := range []string{"", "A", "a0", "a01", "a+1", "a-1", "a1x", "aa", "1", "a_1", "a ", Letter(1<<62 + 1), Letter(math.MaxInt), "a99999999999999999999"} {
		if got := Number(s); got != -1 {
			t.Errorf("Number(%q): %d", s, got)
		}
	}
}

func TestFresh(t *testing.T) {
	for _, c := range []struct {
		avoid []string
		base  string
		want  string
	}{
		{nil, "x", "x"},
		{[]string{"y"}, "x", "x"},
		{[]string{"x"}, "x", "x1"},
		{[]string{"x", "x2", "x1"}, "x", "x3"},
		{[]string{"x1"}, "x", "x"},
		{[]string{""}, "", "1"},
	} {
		if got := Fresh(c.avoid, c.base); got != c.want {
			t.Errorf("Fresh(%v, %q): %q", c.avoid, c.base, got)
		}
	}
}
