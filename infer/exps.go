package infer

import (
	"envoy/api"
	"envoy/fsigs"
	"envoy/ftypes"
	"envoy/ipats"
	"envoy/lower"
	"envoy/tables"
	"envoy/terms"
)

// nothing is what is told of what fails.
func nothing(ok bool) (api.Type, api.Term, bool) { return api.Type{}, api.Term{}, ok }

// exp tells the type and the term of an expression; false, if the state fails.
func (c *context) exp(n api.Node) (api.Type, api.Term, bool) {
	switch n.Kind {
	case api.ExpVar:
		return c.variable(n)
	case api.ExpCon:
		p, ok := fsigs.Con(c.env, n.Text)
		if !ok {
			return nothing(c.Fail(api.ErrUnknown, n.Pos))
		}
		vars := c.variables(len(p.Vars))
		return ftypes.Put(p.Type, p.Vars, vars), api.Term{Kind: api.TermCon, Name: n.Text, Types: vars}, true
	case api.ExpInt:
		return base("Int"), api.Term{Kind: api.TermInt, N: n.N}, true
	case api.ExpApp:
		return c.apply(n)
	case api.ExpLam:
		return c.lambda(n)
	case api.ExpIf:
		return c.branch(n)
	case api.ExpCase:
		return c.choice(n)
	}
	return c.let(n)
}

func base(name string) api.Type {
	d, _ := lower.Find(lower.Base(), name)
	return api.Type{Con: d.Name}
}

func fun(from, to api.Type) api.Type { return terms.Fun([]api.Type{from}, to) }

// variables tells the next n variables.
func (c *context) variables(n int) []api.Type {
	var l []api.Type
	for range n {
		l = append(l, c.Var())
	}
	return l
}

// numbers tells 0 to n - 1.
func numbers(n int) []int {
	var l []int
	for v := range n {
		l = append(l, v)
	}
	return l
}

// instantiated tells a term at types, if there are any.
func instantiated(t api.Term, types []api.Type) api.Term {
	if len(types) == 0 {
		return t
	}
	return api.Term{Kind: api.TermInst, Types: types, Kids: []api.Term{t}}
}

// applied tells a term applied to each of l.
func applied(t api.Term, l []api.Term) api.Term {
	for _, x := range l {
		t = api.Term{Kind: api.TermApp, Kids: []api.Term{t, x}}
	}
	return t
}

func (c *context) variable(n api.Node) (api.Type, api.Term, bool) {
	v := api.Term{Kind: api.TermVar, Name: n.Text}
	if e, ok := c.find(n.Text); ok {
		if e.group == nil {
			return c.ofScheme(v, e.scheme, n.Pos)
		}
		hole := c.Use()
		e.group.uses = append(e.group.uses, use{hole, e.at})
		return e.scheme.Type, api.Term{Kind: api.TermHole, N: hole}, true
	}
	if class, place, ok := tables.Method(c.env.Classes, n.Text); ok {
		return c.method(c.env.Classes[class], place, n.Pos)
	}
	if p, ok := fsigs.Prim(n.Text); ok {
		return p.Type, v, true
	}
	return nothing(c.Fail(api.ErrUnknown, n.Pos))
}

func (c *context) ofScheme(t api.Term, s api.Scheme, pos int) (api.Type, api.Term, bool) {
	vars, own := c.variables(s.N), numbers(s.N)
	var holes []api.Term
	for _, p := range s.Preds {
		holes = append(holes, c.wait(api.Pred{Class: p.Class, Type: ftypes.Put(p.Type, own, vars)}, pos))
	}
	return ftypes.Put(s.Type, own, vars), applied(instantiated(t, vars), holes), true
}

func (c *context) method(class api.Class, place, pos int) (api.Type, api.Term, bool) {
	m := class.Methods[place]
	if m.N > api.MaxNodes {
		return nothing(c.Fail(api.ErrLimit, pos))
	}
	vars := c.variables(1 + max(m.N, 0))
	hole := c.wait(api.Pred{Class: class.Name, Type: vars[0]}, pos)
	t := api.Term{Kind: api.TermProj, Name: class.Name, N: len(class.Supers) + place, Kids: []api.Term{hole}}
	return ftypes.Put(m.Type, numbers(len(vars)), vars), instantiated(t, vars[1:]), true
}

func (c *context) apply(n api.Node) (api.Type, api.Term, bool) {
	f, g, ok := c.exp(n.Kids[0])
	if !ok {
		return nothing(false)
	}
	t, x, ok := c.exp(n.Kids[1])
	if !ok {
		return nothing(false)
	}
	r := c.Var()
	if !c.Unify(f, fun(t, r), n.Pos) {
		return nothing(false)
	}
	return r, applied(g, []api.Term{x}), true
}

func (c *context) lambda(n api.Node) (api.Type, api.Term, bool) {
	v := c.Var()
	count := len(c.entered)
	c.plainly(n.Text, v)
	t, x, ok := c.exp(n.Kids[0])
	c.leave(count)
	if !ok {
		return nothing(false)
	}
	return fun(v, t), api.Term{Kind: api.TermLam, Name: n.Text, Types: []api.Type{v}, Kids: []api.Term{x}}, true
}

func (c *context) branch(n api.Node) (api.Type, api.Term, bool) {
	test, x, ok := c.exp(n.Kids[0])
	if !ok || !c.Unify(test, base("Bool"), n.Kids[0].Pos) {
		return nothing(false)
	}
	t, y, ok := c.exp(n.Kids[1])
	if !ok {
		return nothing(false)
	}
	u, z, ok := c.exp(n.Kids[2])
	if !ok || !c.Unify(t, u, n.Kids[2].Pos) {
		return nothing(false)
	}
	yes, no := api.Term{Kind: api.TermPatCon, Name: "True"}, api.Term{Kind: api.TermPatCon, Name: "False"}
	return t, api.Term{Kind: api.TermCase, Kids: []api.Term{x, alternative(yes, y), alternative(no, z)}}, true
}

func alternative(p, t api.Term) api.Term {
	return api.Term{Kind: api.TermAlt, Kids: []api.Term{p, t}}
}

func (c *context) choice(n api.Node) (api.Type, api.Term, bool) {
	of, x, ok := c.exp(n.Kids[0])
	if !ok {
		return nothing(false)
	}
	r := c.Var()
	out := api.Term{Kind: api.TermCase, Kids: []api.Term{x}}
	for _, alt := range n.Kids[1:] {
		a, ok := c.alternative(alt, of, r)
		if !ok {
			return nothing(false)
		}
		out.Kids = append(out.Kids, a)
	}
	return r, out, true
}

func (c *context) alternative(n api.Node, of, r api.Type) (api.Term, bool) {
	pat, body := n.Kids[0], n.Kids[1]
	u, vars, p, ok := ipats.At(c.env, c.State, pat)
	if !ok || !c.Unify(u, of, pat.Pos) {
		return api.Term{}, false
	}
	count := len(c.entered)
	for _, v := range vars {
		c.plainly(v.Name, v.Poly.Type)
	}
	t, x, ok := c.exp(body)
	c.leave(count)
	if !ok || !c.Unify(t, r, body.Pos) {
		return api.Term{}, false
	}
	return alternative(p, x), true
}

func (c *context) let(n api.Node) (api.Type, api.Term, bool) {
	last := len(n.Kids) - 1
	count := len(c.entered)
	binds, ok := c.bindings(n.Kids[:last])
	if !ok {
		return nothing(false)
	}
	t, x, ok := c.exp(n.Kids[last])
	c.leave(count)
	if !ok {
		return nothing(false)
	}
	out := api.Term{Kind: api.TermLet}
	for _, b := range binds {
		out.Kids = append(out.Kids, b.term)
	}
	out.Kids = append(out.Kids, x)
	return t, out, true
}
