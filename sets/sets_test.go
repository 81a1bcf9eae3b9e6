package sets

import (
	"slices"
	"testing"
)

func has(t *testing.T, s *Set, want ...string) {
	t.Helper()
	if got := s.List(); !slices.Equal(got, want) || s.Len() != len(want) {
		t.Errorf("%v (%d), not %v", got, s.Len(), want)
	}
	for _, x := range want {
		if !s.Has(x) {
			t.Errorf("%q is not there", x)
		}
	}
}

func TestSets(t *testing.T) {
	s := New("b", "a", "b")
	has(t, s, "a", "b")
	if s.Add("a") || !s.Add("") || !s.Add("B") || s.Add("B") {
		t.Error("Add")
	}
	has(t, s, "", "B", "a", "b")
	if s.Remove("c") || !s.Remove("a") || s.Remove("a") || s.Has("a") {
		t.Error("Remove")
	}
	has(t, s, "", "B", "b")
	has(t, New())
	has(t, New("\xff", "z", "\u00e9"), "z", "\u00e9", "\xff")
}

func TestUnionMinusWithin(t *testing.T) {
	s, u := New("a", "b"), New("b", "c")
	both, less := s.Union(u), s.Minus(u)
	has(t, both, "a", "b", "c")
	has(t, less, "a")
	both.Add("x")
	less.Add("y")
	s.Add("z")
	has(t, s, "a", "b", "z")
	has(t, u, "b", "c")
	has(t, both, "a", "b", "c", "x")
	if s.Within(u) || !New("b").Within(u) || !u.Within(u) || !New().Within(u) || u.Within(New()) || !New().Within(New()) {
		t.Error("Within")
	}
}

func TestNil(t *testing.T) {
	var s *Set
	if s.Add("a") || s.Has("a") || s.Remove("a") {
		t.Error("a nil set changes")
	}
	has(t, s)
	u := New("a")
	has(t, s.Union(u), "a")
	has(t, u.Union(nil), "a")
	has(t, s.Minus(u))
	has(t, u.Minus(s), "a")
	if !s.Within(u) || !s.Within(nil) || u.Within(s) {
		t.Error("Within")
	}
	if e := s.Union(nil); e == nil || !e.Add("x") {
		t.Error("Union of two is a set")
	}
	if e := s.Minus(nil); e == nil || !e.Add("x") {
		t.Error("Minus of two is a set")
	}
	var zero Set
	if !zero.Add("a") {
		t.Error("the zero set")
	}
}

func TestListIsNew(t *testing.T) {
	s := New("a", "b")
	s.List()[0] = "z"
	has(t, s, "a", "b")
}
