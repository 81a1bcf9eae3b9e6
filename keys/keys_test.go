package keys

import (
	"testing"

	"envoy/api"
)

func TestKeys(t *testing.T) {
	types := []api.Type{{}, {Var: 1}, {Var: -1}, {Con: "T"}, {Con: "T", Var: 1}, {Con: "T1"}, {Con: "T", Args: []api.Type{{}}}, {Con: "T", Args: []api.Type{{}, {}}}, {Con: "T", Args: []api.Type{{Args: []api.Type{{}}}}}, {Con: "1:T0("}, {Args: []api.Type{{}}}}
	seen := map[string]int{}
	for i, u := range types {
		for _, class := range []string{"", "C", "C1", "1"} {
			key := Pred(api.Pred{Class: class, Type: u})
			if seen[key]++; seen[key] > 1 {
				t.Error("twice", i, class)
			}
		}
		if Type(u) != Type(u) {
			t.Error("the same")
		}
	}
}
