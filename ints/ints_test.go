package ints

import (
	"math"
	"strings"
	"testing"

	"envoy/api"
)

func TestWrap(t *testing.T) {
	if Add(math.MaxInt, 1) != math.MinInt || Add(2, 3) != 5 {
		t.Error("Add")
	}
	if Sub(math.MinInt, 1) != math.MaxInt || Sub(2, 3) != -1 {
		t.Error("Sub")
	}
	if Mul(math.MaxInt, 2) != -2 || Mul(math.MinInt, -1) != math.MinInt || Mul(6, -7) != -42 {
		t.Error("Mul")
	}
}

func TestQuotRem(t *testing.T) {
	for _, c := range []struct {
		a, b, quot, rem int
		ok              bool
	}{
		{-7, 2, -3, -1, true},
		{7, -2, -3, 1, true},
		{7, 2, 3, 1, true},
		{-7, -2, 3, -1, true},
		{7, 0, 0, 0, false},
		{0, 0, 0, 0, false},
		{math.MinInt, -1, math.MinInt, 0, true},
		{math.MinInt, 1, math.MinInt, 0, true},
		{3, math.MinInt, 0, 3, true},
	} {
		if q, ok := Quot(c.a, c.b); q != c.quot || ok != c.ok {
			t.Errorf("Quot(%d, %d): %d %v", c.a, c.b, q, ok)
		}
		if r, ok := Rem(c.a, c.b); r != c.rem || ok != c.ok {
			t.Errorf("Rem(%d, %d): %d %v", c.a, c.b, r, ok)
		}
	}
}

func TestRead(t *testing.T) {
	for _, c := range []struct {
		s string
		n int
		e api.Errno
	}{
		{"0", 0, api.OK},
		{"007", 7, api.OK},
		{"42", 42, api.OK},
		{"9223372036854775807", math.MaxInt, api.OK},
		{"09223372036854775807", math.MaxInt, api.OK},
		{"9223372036854775808", 0, api.ErrNumber},
		{"9223372036854775810", 0, api.ErrNumber},
		{"18446744073709551616", 0, api.ErrNumber},
		{strings.Repeat("9", 1000), 0, api.ErrNumber},
		{strings.Repeat("9", 1000) + "x", 0, api.ErrParse},
		{strings.Repeat("0", 1000) + "5", 5, api.OK},
		{"", 0, api.ErrParse},
		{"-1", 0, api.ErrParse},
		{"1a", 0, api.ErrParse},
		{" 1", 0, api.ErrParse},
		{"/", 0, api.ErrParse},
		{":", 0, api.ErrParse},
	} {
		if n, e := Read(c.s); n != c.n || e != c.e {
			t.Errorf("Read(%q): %d %d", c.s, n, e)
		}
	}
}

func TestText(t *testing.T) {
	for n, s := range map[int]string{0: "0", 10: "10", -5: "-5", math.MinInt: "-9223372036854775808", math.MaxInt: "9223372036854775807"} {
		if got := Text(n); got != s {
			t.Errorf("Text(%d): %q", n, got)
		}
	}
}
