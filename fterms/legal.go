package fterms

import (
	"envoy/api"
	"envoy/ftypes"
)

// maxLevels is how many levels a term may have.
const maxLevels = 400

// several is a count that is not looked at.
const several = -1

// shape is what a kind of a term must have; what it does not name is empty.
type shape struct {
	name, number, vars bool
	least              int // of the number
	types, kids        int
}

const leastInt = -1 << 63

func shapeOf(kind int) (shape, bool) {
	switch kind {
	case api.TermVar, api.TermPatVar:
		return shape{name: true}, true
	case api.TermInt, api.TermHole, api.TermPatInt:
		return shape{number: true, least: leastInt}, true
	case api.TermLam:
		return shape{name: true, types: 1, kids: 1}, true
	case api.TermApp, api.TermAlt:
		return shape{kids: 2}, true
	case api.TermAll:
		return shape{vars: true, kids: 1}, true
	case api.TermInst:
		return shape{types: several, kids: 1}, true
	case api.TermCon:
		return shape{name: true, types: several}, true
	case api.TermCase, api.TermLet:
		return shape{kids: several}, true
	case api.TermBind:
		return shape{name: true, vars: true, types: 1, kids: 1}, true
	case api.TermDict:
		return shape{name: true, types: 1, kids: several}, true
	case api.TermProj:
		return shape{name: true, number: true, kids: 1}, true
	case api.TermPatAny:
		return shape{}, true
	case api.TermPatCon:
		return shape{name: true, kids: several}, true
	}
	return shape{}, false
}

// fits tells whether a node, without a look at its kids, is as its kind asks.
func fits(t api.Term) bool {
	s, ok := shapeOf(t.Kind)
	if !ok || s.name != (t.Name != "") || !s.number && t.N != 0 || s.number && t.N < s.least || !s.vars && len(t.Vars) > 0 {
		return false
	}
	if s.types != several && len(t.Types) != s.types || s.kids != several && len(t.Kids) != s.kids {
		return false
	}
	for _, u := range t.Types {
		if !ftypes.Legal(u) {
			return false
		}
	}
	return true
}

// Legal tells whether t is a term.
func Legal(t api.Term) bool {
	return (&judge{left: api.MaxNodes}).term(t, 1)
}

// judge leaves off as soon as there are too many nodes, or levels.
type judge struct{ left int }

func (j *judge) node(t api.Term, level int) bool {
	j.left--
	return j.left >= 0 && level <= maxLevels && fits(t)
}

func (j *judge) each(l []api.Term, level int, is func(api.Term, int) bool) bool {
	for _, t := range l {
		if !is(t, level) {
			return false
		}
	}
	return true
}

func (j *judge) term(t api.Term, level int) bool {
	if t.Kind == api.TermAlt || t.Kind == api.TermBind || t.Kind >= api.TermPatVar || !j.node(t, level) {
		return false
	}
	last := len(t.Kids) - 1
	switch t.Kind {
	case api.TermCase:
		return last >= 1 && j.term(t.Kids[0], level+1) && j.each(t.Kids[1:], level+1, j.alt)
	case api.TermLet:
		return last >= 0 && j.each(t.Kids[:last], level+1, j.bind) && j.term(t.Kids[last], level+1)
	}
	return j.each(t.Kids, level+1, j.term)
}

func (j *judge) alt(t api.Term, level int) bool {
	return t.Kind == api.TermAlt && j.node(t, level) && j.pat(t.Kids[0], level+1) && j.term(t.Kids[1], level+1)
}

func (j *judge) bind(t api.Term, level int) bool {
	return t.Kind == api.TermBind && j.node(t, level) && j.term(t.Kids[0], level+1)
}

func (j *judge) pat(t api.Term, level int) bool {
	return t.Kind >= api.TermPatVar && j.node(t, level) && j.each(t.Kids, level+1, j.pat)
}
