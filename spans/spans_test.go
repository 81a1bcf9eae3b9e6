package spans

import (
	"math"
	"slices"
	"testing"

	"envoy/api"
)

func TestLines(t *testing.T) {
	for _, c := range []struct {
		s string
		l []int
	}{
		{"", []int{0}},
		{"a", []int{0}},
		{"\n", []int{0, 1}},
		{"a\nbc", []int{0, 2}},
		{"a\n\nb\n", []int{0, 2, 3, 5}},
		{"a\r\nb", []int{0, 3}},
	} {
		if got := Lines(c.s); !slices.Equal(got, c.l) {
			t.Errorf("Lines(%q): %v, not %v", c.s, got, c.l)
		}
	}
}

func TestPlace(t *testing.T) {
	for _, c := range []struct {
		s            string
		at           int
		line, column int
		e            api.Errno
	}{
		{"a\nbc", 3, 2, 2, api.OK},
		{"a\nbc", 1, 1, 2, api.OK},
		{"a\nbc", 4, 2, 3, api.OK},
		{"a\n", 2, 2, 1, api.OK},
		{"", 0, 1, 1, api.OK},
		{"a", 2, 0, 0, api.ErrArg},
		{"a", -1, 0, 0, api.ErrArg},
		{"a", math.MaxInt, 0, 0, api.ErrArg},
		{"a", math.MinInt, 0, 0, api.ErrArg},
	} {
		line, column, e := Place(c.s, c.at)
		if line != c.line || column != c.column || e != c.e {
			t.Errorf("Place(%q, %d): %d %d %d", c.s, c.at, line, column, e)
		}
	}
}

func TestOffsetIsPlaceBackAgain(t *testing.T) {
	for _, s := range []string{"", "a\nbc", "\n\n", "ab\n\ncd\n"} {
		for at := 0; at <= len(s); at++ {
			line, column, _ := Place(s, at)
			if back, e := Offset(s, line, column); back != at || e != api.OK {
				t.Errorf("Offset(%q, %d, %d): %d %d", s, line, column, back, e)
			}
		}
	}
}

func TestOffsetRefuses(t *testing.T) {
	for _, c := range [][2]int{{0, 1}, {3, 1}, {1, 0}, {1, 3}, {2, 4}, {1, math.MaxInt}, {1, math.MinInt}, {math.MaxInt, 1}, {math.MinInt, 1}} {
		if at, e := Offset("a\nbc", c[0], c[1]); at != 0 || e != api.ErrArg {
			t.Errorf("Offset %v: %d %d", c, at, e)
		}
	}
}

func TestLineAndMark(t *testing.T) {
	if s, e := Line("a\nbc\n", 2); s != "bc" || e != api.OK {
		t.Errorf("Line: %q %d", s, e)
	}
	if s, e := Line("a\n", 2); s != "" || e != api.OK {
		t.Errorf("Line behind the last byte 10: %q %d", s, e)
	}
	for _, n := range []int{0, 3, -1, math.MaxInt} {
		if s, e := Line("a\n", n); s != "" || e != api.ErrArg {
			t.Errorf("Line %d: %q %d", n, s, e)
		}
	}
	if s, e := Mark("a\nbc", 3); s != "bc\n ^" || e != api.OK {
		t.Errorf("Mark: %q %d", s, e)
	}
	if s, e := Mark("ab\nc", 2); s != "ab\n  ^" || e != api.OK {
		t.Errorf("Mark of a byte 10: %q %d", s, e)
	}
	if s, e := Mark("a", 2); s != "" || e != api.ErrArg {
		t.Errorf("Mark beyond: %q %d", s, e)
	}
}
