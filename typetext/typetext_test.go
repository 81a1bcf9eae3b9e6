package typetext

import (
	"strconv"
	"testing"

	"envoy/api"
)

func TestOf(t *testing.T) {
	a, b := api.Type{Var: 1}, api.Type{Var: 2}
	f := api.Type{Con: "->", Args: []api.Type{a, b}}
	u := api.Type{Con: "T", Args: []api.Type{f, a, {Con: "U"}, {Con: "{C}", Args: []api.Type{b}}}}
	if got := Of(api.Type{Con: "->", Args: []api.Type{f, {Con: "->", Args: []api.Type{u, a}}}}, strconv.Itoa); got != "(1 -> 2) -> T (1 -> 2) 1 U ({C} 2) -> 1" {
		t.Error(got)
	}
}
