package clone

import (
	"reflect"
	"testing"

	"envoy/api"
)

// lists goes over the memory of all lists in a value.
func lists(v reflect.Value, each func(uintptr)) {
	switch v.Kind() {
	case reflect.Slice:
		if v.Len() > 0 {
			each(v.Pointer())
		}
		for i := range v.Len() {
			lists(v.Index(i), each)
		}
	case reflect.Struct:
		for i := range v.NumField() {
			lists(v.Field(i), each)
		}
	}
}

func check[T any](t *testing.T, x T, clone func(T) T) {
	t.Helper()
	y := clone(x)
	if !reflect.DeepEqual(x, y) {
		t.Errorf("%v is not %v", y, x)
	}
	old := map[uintptr]int{}
	lists(reflect.ValueOf(x), func(p uintptr) { old[p]++ })
	lists(reflect.ValueOf(y), func(p uintptr) {
		if old[p] > 0 {
			t.Errorf("%T shares", x)
		}
	})
}

func TestClone(t *testing.T) {
	u := api.Type{Con: "T", Args: []api.Type{{Var: 1}, {Con: "U", Args: []api.Type{{Var: 2}}}}}
	p := api.Pred{Class: "C", Type: u}
	s := api.Scheme{N: 1, Preds: []api.Pred{p}, Type: u}
	check(t, u, Type)
	check(t, p, Pred)
	check(t, s, Scheme)
	check(t, api.Entry{Name: "x", Scheme: s}, Entry)
	check(t, api.Node{Kind: 1, Kids: []api.Node{{Text: "a", Kids: []api.Node{{N: 3}}}}}, Node)
	check(t, api.Proof{Kind: 3, Types: []api.Type{u}, Kids: []api.Proof{{N: 1, Types: []api.Type{u}}}}, Proof)
	check(t, api.Typed{Name: "x", Poly: api.Poly{Vars: []int{1}, Type: u}}, Typed)
	check(t, api.Term{Kind: 6, Vars: []int{1}, Types: []api.Type{u}, Kids: []api.Term{{Name: "x", Types: []api.Type{u}}}}, Term)
	check(t, api.Data{Name: "D", Cons: []api.Con{{Name: "K", Types: []api.Type{u}}}}, Data)
	if Types(nil) != nil || Preds([]api.Pred{}) != nil {
		t.Error("of none")
	}
}
