package basis

import (
	"testing"

	"envoy/api"
)

func TestSound(t *testing.T) {
	good := api.Env{Classes: []api.Class{{Name: "C"}, {Name: "D", Supers: []string{"C"}}}, Insts: []api.Inst{{Class: "C", Con: "T"}}}
	if !Sound(good) || !Sound(api.Env{}) {
		t.Error("good")
	}
	if Sound(api.Env{Classes: []api.Class{{Name: "C", Supers: []string{"C"}}}}) || Sound(api.Env{Insts: []api.Inst{{Class: "C", Con: "t"}}}) {
		t.Error("bad")
	}
}

func TestLegal(t *testing.T) {
	if !Legal(nil) || !Legal([]api.Pred{{Class: "C"}}) || Legal([]api.Pred{{Class: "C"}, {Class: "c"}}) {
		t.Error("Legal")
	}
}

func TestClass(t *testing.T) {
	l := []api.Class{{Name: "C"}, {Name: "D"}, {Name: "D", Supers: []string{"C"}}}
	if c, ok := Class(l, "D"); !ok || c.Name != "D" || len(c.Supers) != 0 {
		t.Error(c, ok)
	}
	if c, ok := Class(l, "Z"); ok || c.Name != "" {
		t.Error(c, ok)
	}
}
