// Package clone makes new memory of what is handed in or kept.
package clone

import (
	"slices"

	"envoy/api"
)

// List tells each of l by one.
func List[T any](l []T, one func(T) T) []T {
	if len(l) == 0 {
		return nil
	}
	out := make([]T, len(l))
	for i, x := range l {
		out[i] = one(x)
	}
	return out
}

// Type is t in new memory.
func Type(t api.Type) api.Type {
	t.Args = Types(t.Args)
	return t
}

// Types is l in new memory.
func Types(l []api.Type) []api.Type { return List(l, Type) }

// Pred is p in new memory.
func Pred(p api.Pred) api.Pred {
	p.Type = Type(p.Type)
	return p
}

// Preds is l in new memory.
func Preds(l []api.Pred) []api.Pred { return List(l, Pred) }

// Scheme is s in new memory.
func Scheme(s api.Scheme) api.Scheme {
	s.Preds, s.Type = Preds(s.Preds), Type(s.Type)
	return s
}

// Node is n in new memory.
func Node(n api.Node) api.Node {
	n.Kids = List(n.Kids, Node)
	return n
}

// Proof is p in new memory.
func Proof(p api.Proof) api.Proof {
	p.Types, p.Kids = Types(p.Types), List(p.Kids, Proof)
	return p
}

// Poly is p in new memory.
func Poly(p api.Poly) api.Poly {
	p.Vars, p.Type = slices.Clone(p.Vars), Type(p.Type)
	return p
}

// Typed is t in new memory.
func Typed(t api.Typed) api.Typed {
	t.Poly = Poly(t.Poly)
	return t
}

// Term is t in new memory.
func Term(t api.Term) api.Term {
	t.Vars, t.Types, t.Kids = slices.Clone(t.Vars), Types(t.Types), Terms(t.Kids)
	return t
}

// Terms is l in new memory.
func Terms(l []api.Term) []api.Term { return List(l, Term) }

// Data is d in new memory.
func Data(d api.Data) api.Data {
	d.Cons = List(d.Cons, func(c api.Con) api.Con {
		c.Types = Types(c.Types)
		return c
	})
	return d
}

// Entry is e in new memory.
func Entry(e api.Entry) api.Entry {
	e.Scheme = Scheme(e.Scheme)
	return e
}
