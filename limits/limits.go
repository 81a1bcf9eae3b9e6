// Package limits puts types in the place of variables as long as a type comes of it.
package limits

import (
	"envoy/api"
	"envoy/ftypes"
	"envoy/terms"
)

// Put is ftypes.Put, and whether that is a type; what would be far too great is not made at all.
func Put(t api.Type, vars []int, types []api.Type) (api.Type, bool) {
	m := measure{places: map[int]int{}, types: types, sizes: map[int]int{}, left: api.MaxNodes}
	for i, v := range vars {
		if _, ok := m.places[v]; !ok {
			m.places[v] = i
		}
	}
	if !m.fits(t) {
		return api.Type{}, false
	}
	out := ftypes.Put(t, vars, types)
	if !ftypes.Legal(out) {
		return api.Type{}, false
	}
	return out, true
}

// measure counts the nodes that are left.
type measure struct {
	places map[int]int
	types  []api.Type
	sizes  map[int]int
	left   int
}

func (m *measure) fits(t api.Type) bool {
	if i, ok := m.places[t.Var]; ok && t.Con == "" && i < len(m.types) {
		size, known := m.sizes[i]
		if !known {
			size = terms.Size(m.types[i])
			m.sizes[i] = size
		}
		m.left -= size
		return m.left >= 0
	}
	m.left--
	for _, a := range t.Args {
		if m.left < 0 || !m.fits(a) {
			return false
		}
	}
	return m.left >= 0
}
