package graph

import (
	"math"
	"slices"
	"testing"

	"envoy/api"
)

func edges(l ...int) []api.Edge {
	var out []api.Edge
	for i := 0; i < len(l); i += 2 {
		out = append(out, api.Edge{From: l[i], To: l[i+1]})
	}
	return out
}

func TestCheck(t *testing.T) {
	for _, c := range []struct {
		n int
		l []api.Edge
		e api.Errno
	}{
		{0, nil, api.OK},
		{1000, edges(999, 0), api.OK},
		{1001, nil, api.ErrArg},
		{-1, nil, api.ErrArg},
		{math.MinInt, nil, api.ErrArg},
		{2, edges(0, 1, 1, 2), api.ErrArg},
		{2, edges(2, 1), api.ErrArg},
		{2, edges(-1, 1), api.ErrArg},
		{2, edges(1, math.MinInt), api.ErrArg},
		{0, edges(0, 0), api.ErrArg},
	} {
		if e := Check(c.n, c.l); e != c.e {
			t.Errorf("Check(%d, %v): %d", c.n, c.l, e)
		}
		if c.e != api.OK {
			if g, e := Groups(c.n, c.l); g != nil || e != c.e {
				t.Error("Groups", g, e)
			}
			if o, e := Order(c.n, c.l); o != nil || e != c.e {
				t.Error("Order", o, e)
			}
			if Cycle(c.n, c.l) != nil || Reach(c.n, c.l, 0) != nil {
				t.Error("Cycle, Reach")
			}
		}
	}
}

func TestReach(t *testing.T) {
	l := edges(0, 1, 1, 0, 2, 0, 3, 3, 4, 2, 2, 70, 70, 64)
	for from, want := range map[int][]int{0: {0, 1}, 1: {0, 1}, 2: {0, 1, 64, 70}, 3: {3}, 4: {0, 1, 2, 64, 70}, 5: nil, 71: nil, -1: nil, math.MaxInt: nil} {
		if got := Reach(71, l, from); !slices.Equal(got, want) {
			t.Errorf("from %d: %v", from, got)
		}
	}
}

func TestGroups(t *testing.T) {
	for _, c := range []struct {
		n    int
		l    []api.Edge
		want [][]int
	}{
		{0, nil, nil},
		{3, nil, [][]int{{0}, {1}, {2}}},
		{3, edges(0, 1, 1, 0, 2, 0), [][]int{{0, 1}, {2}}},
		{3, edges(0, 2), [][]int{{1}, {2}, {0}}},
		{4, edges(0, 3, 1, 2), [][]int{{2}, {1}, {3}, {0}}},
		{5, edges(4, 0, 0, 4, 0, 1, 2, 3, 3, 2), [][]int{{1}, {0, 4}, {2, 3}}},
		{3, edges(0, 0, 0, 1, 0, 1), [][]int{{1}, {0}, {2}}},
		{4, edges(3, 1, 1, 3, 0, 3), [][]int{{1, 3}, {0}, {2}}},
	} {
		got, e := Groups(c.n, c.l)
		if e != api.OK || !slices.EqualFunc(got, c.want, slices.Equal[[]int]) {
			t.Errorf("Groups(%d, %v): %v %d", c.n, c.l, got, e)
		}
	}
}

func TestOrderCycle(t *testing.T) {
	if o, e := Order(4, edges(0, 3, 1, 2)); e != api.OK || !slices.Equal(o, []int{2, 1, 3, 0}) {
		t.Error(o, e)
	}
	if c := Cycle(4, edges(0, 3, 1, 2)); c != nil {
		t.Error(c)
	}
	if o, e := Order(2, edges(1, 1)); e != api.ErrCycle || o != nil {
		t.Error(o, e)
	}
	if c := Cycle(2, edges(1, 1)); !slices.Equal(c, []int{1}) {
		t.Error(c)
	}
	if c := Cycle(6, edges(0, 5, 5, 0, 2, 3, 3, 2, 0, 2)); !slices.Equal(c, []int{2, 3}) {
		t.Error(c)
	}
	if o, e := Order(3, edges(0, 1, 1, 2, 2, 0)); e != api.ErrCycle || o != nil {
		t.Error(o, e)
	}
}

func TestTheGreatest(t *testing.T) {
	var l []api.Edge
	for v := range 999 {
		l = append(l, api.Edge{From: v, To: v + 1})
	}
	o, e := Order(1000, l)
	if e != api.OK || len(o) != 1000 || o[0] != 999 || o[999] != 0 {
		t.Error(e, len(o))
	}
	g, _ := Groups(1000, append(l, api.Edge{From: 999, To: 0}))
	if len(g) != 1 || len(g[0]) != 1000 {
		t.Error(len(g))
	}
}
