// Package basis is what the layers that resolve predicates ask of an env ahead of all else.
package basis

import (
	"slices"

	"envoy/api"
	"envoy/heads"
	"envoy/preds"
	"envoy/supers"
)

// Sound tells whether an env's classes, and each of its instances, may be.
func Sound(env api.Env) bool {
	if _, e := supers.Check(env.Classes); e != api.OK {
		return false
	}
	for _, x := range env.Insts {
		if heads.Check(x) != api.OK {
			return false
		}
	}
	return true
}

// Legal tells whether all of l may be.
func Legal(l []api.Pred) bool {
	for _, p := range l {
		if !preds.Legal(p) {
			return false
		}
	}
	return true
}

// Class tells the first class of a name, which shares its parts with l.
func Class(l []api.Class, name string) (api.Class, bool) {
	i := slices.IndexFunc(l, func(c api.Class) bool { return c.Name == name })
	if i < 0 {
		return api.Class{}, false
	}
	return l[i], true
}
