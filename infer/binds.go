package infer

import (
	"slices"

	"envoy/api"
	"envoy/evterms"
	"envoy/fterms"
	"envoy/ftypes"
	"envoy/groups"
	"envoy/lower"
	"envoy/preds"
	"envoy/reduce"
	"envoy/residue"
	"envoy/scheme"
	"envoy/terms"
)

// binding is what a BindNode became.
type binding struct {
	pos    int
	scheme api.Scheme
	term   api.Term
}

// group is bindings that are not told yet.
type group struct {
	binds []api.Node
	vars  []api.Type
	uses  []use
}

// use is a hole for the name of a group's binding.
type use struct{ hole, at int }

// bindings tells what bindings become, and puts their names around what follows.
func (c *context) bindings(l []api.Node) ([]binding, bool) {
	signs := map[string]api.Scheme{}
	for _, n := range l {
		if n.Kind != api.SigNode {
			continue
		}
		s, _, pos, e := lower.Scheme(c.env, n.Kids[0])
		if e != api.OK {
			return nil, c.Fail(e, pos)
		}
		if _, ok := signs[n.Text]; !ok {
			signs[n.Text] = s
		}
		c.enter(&entry{name: n.Text, scheme: s})
	}
	var all []binding
	for _, places := range groups.Groups(l) {
		first := l[places[0]]
		if s, ok := signs[first.Text]; ok && len(places) == 1 {
			b, ok := c.signed(first, s)
			if !ok {
				return nil, false
			}
			all = append(all, b)
			continue
		}
		g := &group{}
		for _, i := range places {
			g.binds = append(g.binds, l[i])
		}
		told, ok := c.told(g)
		if !ok {
			return nil, false
		}
		for _, b := range told {
			c.enter(&entry{name: b.term.Name, scheme: b.scheme})
		}
		all = append(all, told...)
	}
	return all, true
}

// told tells what a group becomes.
func (c *context) told(g *group) ([]binding, bool) {
	from := c.waiting
	bodies, ok := c.bodies(g)
	if !ok {
		return nil, false
	}
	f := c.around()
	o := &owed{c: c, waits: c.Waits(from)}
	var mine []api.Pred
	ok = o.each(func(p api.Pred, pos int) bool {
		if isFixed(p.Type) || f.hasVar(p.Type) {
			o.putOff(p, pos)
		} else {
			mine = append(mine, p)
		}
		return true
	})
	if !ok {
		return nil, false
	}
	mine = reduce.Simple(c.env, mine)
	var types []api.Type
	for _, v := range g.vars {
		types = append(types, c.Type(v))
	}
	for _, v := range preds.Vars(mine) {
		for _, t := range types {
			if !terms.Has(t, v) {
				return nil, c.Fail(api.ErrAmbiguous, g.binds[0].Pos)
			}
		}
	}
	var names []string
	for range mine {
		names = append(names, c.Name())
	}
	if !o.pay(from, mine, names) {
		return nil, false
	}
	return c.close(g, types, bodies, f, mine, names), true
}

// bodies tells the terms of a group's expressions.
func (c *context) bodies(g *group) ([]api.Term, bool) {
	count := len(c.entered)
	for i, n := range g.binds {
		v := c.Var()
		g.vars = append(g.vars, v)
		c.enter(&entry{name: n.Text, scheme: api.Scheme{Type: v}, group: g, at: i})
	}
	var bodies []api.Term
	for i, n := range g.binds {
		t, x, ok := c.exp(n.Kids[0])
		if !ok || !c.Unify(g.vars[i], t, n.Pos) {
			return nil, false
		}
		bodies = append(bodies, x)
	}
	c.leave(count)
	return bodies, true
}

// close tells the bindings of a group, and fills the uses of their names.
func (c *context) close(g *group, types []api.Type, bodies []api.Term, f *found, mine []api.Pred, names []string) []binding {
	var keep []int
	for v := range f.vars {
		keep = append(keep, v)
	}
	var all []binding
	args := termVars(names)
	dicts := evterms.Types(mine)
	for i, n := range g.binds {
		var vars []int
		for _, v := range terms.Vars(types[i]) {
			if _, ok := f.vars[v]; !ok {
				vars = append(vars, v)
			}
		}
		t := bindTerm(n.Text, vars, terms.Fun(dicts, types[i]), names, dicts, bodies[i])
		all = append(all, binding{n.Pos, scheme.Close(types[i], mine, keep), t})
	}
	for _, u := range g.uses {
		b := all[u.at].term
		var own []api.Type
		for _, v := range b.Vars {
			own = append(own, api.Type{Var: v})
		}
		c.Fill(u.hole, applied(instantiated(api.Term{Kind: api.TermVar, Name: b.Name}, own), args))
	}
	return all
}

func bindTerm(name string, vars []int, t api.Type, names []string, dicts []api.Type, body api.Term) api.Term {
	if len(names) > 0 {
		body = fterms.Lams(names, dicts, body)
	}
	return api.Term{Kind: api.TermBind, Name: name, Vars: vars, Types: []api.Type{t}, Kids: []api.Term{body}}
}

func termVars(names []string) []api.Term {
	var l []api.Term
	for _, name := range names {
		l = append(l, api.Term{Kind: api.TermVar, Name: name})
	}
	return l
}

// put tells predicates with types in the place of variables 0 and so on.
func put(l []api.Pred, types []api.Type) []api.Pred {
	var out []api.Pred
	for _, p := range l {
		out = append(out, api.Pred{Class: p.Class, Type: ftypes.Put(p.Type, numbers(len(types)), types)})
	}
	return out
}

// signed tells what a binding becomes that is to have a scheme.
func (c *context) signed(n api.Node, s api.Scheme) (binding, bool) {
	from := c.waiting
	var fixes []api.Type
	for range s.N {
		fixes = append(fixes, c.Fix())
	}
	given := put(s.Preds, fixes)
	var names []string
	for range given {
		names = append(names, c.Name())
	}
	count := len(c.entered)
	c.enter(&entry{name: n.Text, scheme: s})
	t, body, ok := c.exp(n.Kids[0])
	c.leave(count)
	if !ok || !c.Unify(t, ftypes.Put(s.Type, numbers(s.N), fixes), n.Pos) {
		return binding{}, false
	}
	f := c.around()
	own := newFound()
	for _, x := range fixes {
		own.addFixed(x)
		if _, ok := f.fixed[x.Con]; ok {
			return binding{}, c.Fail(api.ErrSignature, n.Pos)
		}
	}
	if !c.discharge(from, given, names, f, own) {
		return binding{}, false
	}
	vars := c.variables(s.N)
	var numbered []int
	for i, v := range vars {
		numbered = append(numbered, v.Var)
		c.fixed[v.Var] = fixedType{fixes[i].Con}
	}
	dicts := evterms.Types(put(s.Preds, vars))
	whole := terms.Fun(dicts, ftypes.Put(s.Type, numbers(s.N), vars))
	return binding{n.Pos, s, bindTerm(n.Text, numbered, whole, names, dicts, body)}, true
}

// discharge fills what waits by what is given; what is of the names around is put off.
func (c *context) discharge(from int, given []api.Pred, names []string, f, own *found) bool {
	o := &owed{c: c, waits: c.Waits(from), given: given}
	ok := o.each(func(p api.Pred, pos int) bool {
		_, mine := own.fixed[p.Type.Con]
		switch {
		case f.hasVar(p.Type) || isFixed(p.Type) && !mine:
			o.putOff(p, pos)
			return true
		case mine:
			return c.Fail(api.ErrSignature, pos)
		}
		return c.Fail(api.ErrAmbiguous, pos)
	})
	return ok && o.pay(from, given, names)
}

// owed is what waits, and what of it is put off.
type owed struct {
	c     *context
	waits []api.Wait
	given []api.Pred
	later []api.Pred
	at    []int // where those came up first
}

// each tells, wait by wait, what does not follow from what is given, each once.
func (o *owed) each(take func(p api.Pred, pos int) bool) bool {
	var left []api.Pred
	for _, w := range o.waits {
		l, e := residue.One(o.c.env, o.given, w.Pred)
		if e != api.OK {
			return o.c.Fail(e, w.Pos)
		}
		for _, p := range l {
			if preds.Has(left, p) {
				continue
			}
			left = append(left, p)
			if !take(p, w.Pos) {
				return false
			}
		}
	}
	return true
}

func (o *owed) putOff(p api.Pred, pos int) {
	o.later, o.at = append(o.later, p), append(o.at, pos)
}

// pay lets what is put off wait anew, and fills the holes of what waited from it and from predicates that have names.
func (o *owed) pay(from int, have []api.Pred, names []string) bool {
	c := o.c
	c.Forget(from)
	c.waiting = from
	terms := termVars(names)
	for i, p := range o.later {
		terms = append(terms, c.wait(p, o.at[i]))
	}
	var wanted []api.Pred
	for _, w := range o.waits {
		wanted = append(wanted, w.Pred)
	}
	filled, at, e := evterms.All(c.env, slices.Concat(have, o.later), terms, wanted)
	if e != api.OK {
		return c.Fail(e, o.waits[at].Pos)
	}
	for i, w := range o.waits {
		c.Fill(w.Hole, filled[i])
	}
	return true
}
