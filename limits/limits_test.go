package limits

import (
	"testing"

	"envoy/api"
	"envoy/ftypes"
	"envoy/terms"
)

func TestPut(t *testing.T) {
	x, _ := terms.Read("a -> T b c")
	u, _ := terms.Read("U a")
	got, ok := Put(x, []int{0, 1, 0}, []api.Type{u, ftypes.Dict("C", u)})
	if !ok || ftypes.Text(api.Poly{Type: got}) != "U a -> T ({C} (U a)) c" {
		t.Error(got, ok)
	}
	if got, ok := Put(x, []int{0}, []api.Type{{Con: "t"}}); ok || got.Con != "" {
		t.Error(got, ok)
	}
	wide := api.Type{Con: "T"}
	for range 4095 {
		wide.Args = append(wide.Args, api.Type{})
	}
	if _, ok := Put(wide, []int{0}, []api.Type{{Var: 1}}); !ok {
		t.Error("the greatest")
	}
	if _, ok := Put(wide, []int{0}, []api.Type{u}); ok {
		t.Error("too great")
	}
	if _, ok := Put(wide, []int{0}, []api.Type{wide}); ok {
		t.Error("far too great")
	}
}
