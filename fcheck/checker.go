package fcheck

import (
	"envoy/api"
	"envoy/fsigs"
	"envoy/ftypes"
	"envoy/limits"
	"envoy/lower"
	"envoy/terms"
)

// checker has the types of the names around, the innermost one last, and how often each variable is free in them.
type checker struct {
	env   api.Env
	names map[string][]api.Poly
	free  map[int]int
}

func newChecker(env api.Env, l []api.Typed) *checker {
	c := &checker{env, map[string][]api.Poly{}, map[int]int{}}
	c.enter(l)
	return c
}

func (c *checker) enter(l []api.Typed) {
	for _, x := range l {
		c.names[x.Name] = append(c.names[x.Name], x.Poly)
		for _, v := range ftypes.Free(x.Poly) {
			c.free[v]++
		}
	}
}

func (c *checker) leave(l []api.Typed) {
	for _, x := range l {
		c.names[x.Name] = c.names[x.Name][:len(c.names[x.Name])-1]
		for _, v := range ftypes.Free(x.Poly) {
			c.free[v]--
		}
	}
}

// fresh refuses variables of which two are the same, or one of the first own ones is free around.
func (c *checker) fresh(vars []int, own int) error {
	seen := map[int]struct{}{}
	for i, v := range vars {
		if _, ok := seen[v]; ok || i < own && c.free[v] > 0 {
			return twice{"a variable"}
		}
		seen[v] = struct{}{}
	}
	return nil
}

func plain(t api.Type) api.Poly { return api.Poly{Type: t} }

func integer() api.Type { return api.Type{Con: lower.Base()[1].Name} }

// whole refuses a type that is too great.
func whole(p api.Poly) (api.Poly, error) {
	if !ftypes.Legal(p.Type) {
		return api.Poly{}, tooGreat{}
	}
	return p, nil
}

// instantiated tells a type with types in the place of its variables.
func instantiated(p api.Poly, types []api.Type) (api.Poly, error) {
	if len(p.Vars) != len(types) {
		return api.Poly{}, count{"the type"}
	}
	t, ok := limits.Put(p.Type, p.Vars, types)
	if !ok {
		return api.Poly{}, tooGreat{}
	}
	return plain(t), nil
}

// single tells the type of a kid that must not be for all of any variables.
func (c *checker) single(t api.Term) (api.Type, error) {
	p, err := c.term(t)
	if err != nil {
		return api.Type{}, err
	}
	if len(p.Vars) > 0 {
		return api.Type{}, unlike{"a type without variables of its own"}
	}
	return p.Type, nil
}

func (c *checker) term(t api.Term) (api.Poly, error) {
	switch t.Kind {
	case api.TermVar:
		return c.name(t.Name)
	case api.TermInt:
		return plain(integer()), nil
	case api.TermLam:
		return c.lambda(t)
	case api.TermApp:
		return c.apply(t)
	case api.TermAll:
		return c.all(t)
	case api.TermInst:
		p, err := c.term(t.Kids[0])
		if err != nil {
			return api.Poly{}, err
		}
		return instantiated(p, t.Types)
	case api.TermCon:
		p, ok := fsigs.Con(c.env, t.Name)
		if !ok {
			return api.Poly{}, notThere{t.Name}
		}
		return instantiated(p, t.Types)
	case api.TermCase:
		return c.choice(t)
	case api.TermLet:
		return c.let(t)
	case api.TermDict:
		return c.dict(t)
	case api.TermProj:
		return c.project(t)
	}
	return api.Poly{}, noTerm{}
}

func (c *checker) name(name string) (api.Poly, error) {
	if l := c.names[name]; len(l) > 0 {
		return l[len(l)-1], nil
	}
	if p, ok := fsigs.Prim(name); ok {
		return p, nil
	}
	return api.Poly{}, notThere{name}
}

func (c *checker) lambda(t api.Term) (api.Poly, error) {
	own := []api.Typed{{Name: t.Name, Poly: plain(t.Types[0])}}
	c.enter(own)
	defer c.leave(own)
	to, err := c.single(t.Kids[0])
	if err != nil {
		return api.Poly{}, err
	}
	return whole(plain(arrow(t.Types[0], to)))
}

// arrow shares its parts: what is told in the end is made new.
func arrow(from, to api.Type) api.Type {
	return api.Type{Con: "->", Args: []api.Type{from, to}}
}

func (c *checker) apply(t api.Term) (api.Poly, error) {
	f, err := c.single(t.Kids[0])
	if err != nil {
		return api.Poly{}, err
	}
	x, err := c.single(t.Kids[1])
	if err != nil {
		return api.Poly{}, err
	}
	if f.Con != "->" || !terms.Same(f.Args[0], x) {
		return api.Poly{}, unlike{"a function from just that"}
	}
	return plain(f.Args[1]), nil
}

func (c *checker) all(t api.Term) (api.Poly, error) {
	p, err := c.term(t.Kids[0])
	if err != nil {
		return api.Poly{}, err
	}
	vars := append(append([]int(nil), t.Vars...), p.Vars...)
	if err := c.fresh(vars, len(t.Vars)); err != nil {
		return api.Poly{}, err
	}
	return api.Poly{Vars: vars, Type: p.Type}, nil
}

func (c *checker) choice(t api.Term) (api.Poly, error) {
	of, err := c.single(t.Kids[0])
	if err != nil {
		return api.Poly{}, err
	}
	var to api.Type
	for i, alt := range t.Kids[1:] {
		own, err := c.pat(alt.Kids[0], of)
		if err != nil {
			return api.Poly{}, err
		}
		c.enter(own)
		u, err := c.single(alt.Kids[1])
		c.leave(own)
		if err != nil {
			return api.Poly{}, err
		}
		if i > 0 && !terms.Same(to, u) {
			return api.Poly{}, unlike{"the type of the alternative ahead"}
		}
		to = u
	}
	return plain(to), nil
}

func typedOf(binds []api.Term) []api.Typed {
	var l []api.Typed
	for _, b := range binds {
		l = append(l, api.Typed{Name: b.Name, Poly: api.Poly{Vars: b.Vars, Type: b.Types[0]}})
	}
	return l
}

func (c *checker) let(t api.Term) (api.Poly, error) {
	last := len(t.Kids) - 1
	binds := t.Kids[:last]
	if _, err := c.binds(binds); err != nil {
		return api.Poly{}, err
	}
	own := typedOf(binds)
	c.enter(own)
	defer c.leave(own)
	u, err := c.single(t.Kids[last])
	return plain(u), err
}

// binds tells the first one that is refused, and why.
func (c *checker) binds(binds []api.Term) (int, error) {
	seen := map[string]struct{}{}
	for i, b := range binds {
		if _, ok := seen[b.Name]; ok {
			return i, twice{b.Name}
		}
		seen[b.Name] = struct{}{}
	}
	// Free around are the variables of the names around alone, not those of these.
	stale := make([]error, len(binds))
	for i, b := range binds {
		stale[i] = c.fresh(b.Vars, len(b.Vars))
	}
	own := typedOf(binds)
	c.enter(own)
	defer c.leave(own)
	for i, b := range binds {
		if stale[i] != nil {
			return i, stale[i]
		}
		t, err := c.single(b.Kids[0])
		if err != nil {
			return i, err
		}
		if !terms.Same(t, b.Types[0]) {
			return i, unlike{"the type that is told"}
		}
	}
	return 0, nil
}

func (c *checker) dict(t api.Term) (api.Poly, error) {
	kids := make([]api.Poly, len(t.Kids))
	for i, k := range t.Kids {
		p, err := c.term(k)
		if err != nil {
			return api.Poly{}, err
		}
		kids[i] = p
	}
	fields := fsigs.Fields(c.env, t.Name)
	if fields < 0 {
		return api.Poly{}, notThere{t.Name}
	}
	if fields != len(kids) {
		return api.Poly{}, count{t.Name}
	}
	for i, p := range kids {
		field, _, err := c.field(t.Name, i, t.Types[0])
		if err != nil {
			return api.Poly{}, err
		}
		if !ftypes.Alike(p, field) {
			return api.Poly{}, unlike{"the type of the field"}
		}
	}
	return whole(plain(ftypes.Dict(t.Name, t.Types[0])))
}

func (c *checker) project(t api.Term) (api.Poly, error) {
	u, err := c.single(t.Kids[0])
	if err != nil {
		return api.Poly{}, err
	}
	class, of, ok := ftypes.Class(u)
	if !ok || class != t.Name {
		return api.Poly{}, unlike{"a record of " + t.Name}
	}
	p, ok, err := c.field(class, t.N, of)
	if err != nil {
		return api.Poly{}, err
	}
	if !ok {
		return api.Poly{}, count{class}
	}
	return p, nil
}

// field tells the n-th field of a class at a type; its own variables come behind those of the type.
func (c *checker) field(class string, n int, of api.Type) (api.Poly, bool, error) {
	p, ok := fsigs.Field(c.env, class, n)
	if !ok {
		return api.Poly{}, false, nil
	}
	greatest := 0
	for _, v := range terms.Vars(of) {
		greatest = max(greatest, v)
	}
	vars, types := []int{0}, []api.Type{of}
	var own []int
	for i, v := range p.Vars {
		own = append(own, greatest+1+i)
		vars, types = append(vars, v), append(types, api.Type{Var: greatest + 1 + i})
	}
	t, ok := limits.Put(p.Type, vars, types)
	if !ok {
		return api.Poly{}, false, tooGreat{}
	}
	return api.Poly{Vars: own, Type: t}, true, nil
}

// pat tells the variables of a pattern, if none comes twice.
func (c *checker) pat(p api.Term, t api.Type) ([]api.Typed, error) {
	l, err := c.patAt(p, t)
	if err != nil {
		return nil, err
	}
	seen := map[string]struct{}{}
	for _, x := range l {
		if _, ok := seen[x.Name]; ok {
			return nil, twice{x.Name}
		}
		seen[x.Name] = struct{}{}
	}
	return l, nil
}

func (c *checker) patAt(p api.Term, t api.Type) ([]api.Typed, error) {
	switch p.Kind {
	case api.TermPatVar:
		return []api.Typed{{Name: p.Name, Poly: plain(t)}}, nil
	case api.TermPatInt:
		if !terms.Same(t, integer()) {
			return nil, unlike{"a number"}
		}
	case api.TermPatCon:
		return c.patCon(p, t)
	}
	return nil, nil
}

func (c *checker) patCon(p api.Term, t api.Type) ([]api.Typed, error) {
	con, ok := fsigs.Con(c.env, p.Name)
	if !ok {
		return nil, notThere{p.Name}
	}
	args, to := terms.Split(con.Type)
	if len(args) != len(p.Kids) {
		return nil, count{p.Name}
	}
	if t.Con != to.Con || len(t.Args) != len(to.Args) {
		return nil, unlike{"a value of " + to.Con}
	}
	var l []api.Typed
	for i, k := range p.Kids {
		u, ok := limits.Put(args[i], con.Vars, t.Args)
		if !ok {
			return nil, tooGreat{}
		}
		more, err := c.patAt(k, u)
		if err != nil {
			return nil, err
		}
		l = append(l, more...)
	}
	return l, nil
}
