package infer

import (
	"envoy/api"
	"envoy/istate"
	"envoy/terms"
)

// context is a state, with the names around.
type context struct {
	*istate.State
	env     api.Env
	names   map[string][]*entry
	entered []*entry
	watched []*entry          // those whose schemes may have free variables, or fixed types
	waiting int               // how many predicates wait
	fixed   map[int]fixedType // for which variables of signed bindings stand
}

// fixedType is one of the state's.
type fixedType struct{ con string }

// entry is a name of a scheme; or one of a group that is not told yet, and its place there.
type entry struct {
	name    string
	scheme  api.Scheme
	group   *group
	at      int
	watched bool
}

func newContext(env api.Env, l []api.Entry) *context {
	c := &context{State: istate.New(), env: env, names: map[string][]*entry{}, fixed: map[int]fixedType{}}
	for _, x := range l {
		c.enter(&entry{name: x.Name, scheme: x.Scheme})
	}
	return c
}

// enter puts a name around what follows.
func (c *context) enter(e *entry) {
	c.names[e.name] = append(c.names[e.name], e)
	c.entered = append(c.entered, e)
	e.watched = mayChange(e.scheme)
	if e.watched {
		c.watched = append(c.watched, e)
	}
}

// plainly puts a name of just a type around what follows.
func (c *context) plainly(name string, t api.Type) {
	c.enter(&entry{name: name, scheme: api.Scheme{Type: t}})
}

// leave takes away all names but the first ones.
func (c *context) leave(count int) {
	for _, e := range c.entered[count:] {
		l := c.names[e.name]
		c.names[e.name] = l[:len(l)-1]
		if e.watched {
			c.watched = c.watched[:len(c.watched)-1]
		}
	}
	c.entered = c.entered[:count]
}

// find tells the last one of a name.
func (c *context) find(name string) (*entry, bool) {
	l := c.names[name]
	if len(l) == 0 {
		return nil, false
	}
	return l[len(l)-1], true
}

// wait lets p wait, and tells its hole.
func (c *context) wait(p api.Pred, pos int) api.Term {
	c.waiting++
	return api.Term{Kind: api.TermHole, N: c.Wait(p, pos)}
}

// typesOf goes over the types of a scheme.
func typesOf(s api.Scheme) []api.Type {
	l := []api.Type{s.Type}
	for _, p := range s.Preds {
		l = append(l, p.Type)
	}
	return l
}

// mayChange tells whether a scheme has a free variable, or a fixed type.
func mayChange(s api.Scheme) bool {
	own, fixed := newFound(), newFound()
	for _, t := range typesOf(s) {
		own.addFree(t, s.N)
		fixed.addFixed(t)
	}
	return len(own.vars)+len(fixed.fixed) > 0
}

// found is variables and fixed types.
type found struct {
	vars  map[int]struct{}
	fixed map[string]struct{}
}

func newFound() *found {
	return &found{map[int]struct{}{}, map[string]struct{}{}}
}

// addFree adds the variables of t but 0 to n - 1.
func (f *found) addFree(t api.Type, n int) {
	for _, v := range terms.Vars(t) {
		if v < 0 || v >= n {
			f.vars[v] = struct{}{}
		}
	}
}

func (f *found) addFixed(t api.Type) {
	if isFixed(t) {
		f.fixed[t.Con] = struct{}{}
	}
	for _, a := range t.Args {
		f.addFixed(a)
	}
}

func (f *found) hasVar(t api.Type) bool {
	_, ok := f.vars[t.Var]
	return ok && t.Con == ""
}

func isFixed(t api.Type) bool { return len(t.Con) > 0 && t.Con[0] == '!' }

// around tells the variables that are free in the schemes around, and their fixed types, as known by now.
func (c *context) around() *found {
	f := newFound()
	for _, e := range c.watched {
		raw := newFound()
		for _, t := range typesOf(e.scheme) {
			raw.addFree(t, e.scheme.N)
			f.addFixed(t)
		}
		for v := range raw.vars {
			t := c.Type(api.Type{Var: v})
			f.addFree(t, 0)
			f.addFixed(t)
		}
	}
	return f
}
