package infer

import (
	"envoy/api"
	"envoy/fterms"
)

// finish tells the terms of bindings with all that is known, or the first one that is too great.
func (c *context) finish(l []binding) ([]api.Term, int, api.Errno) {
	var out []api.Term
	for _, b := range l {
		whole := c.Term(inLet(b.term))
		if whole.Kind == 0 {
			return nil, b.pos, api.ErrLimit
		}
		p := &plainer{fixed: c.fixed, bound: map[int]int{}, stand: map[string]int{}}
		out = append(out, p.term(whole.Kids[0]))
	}
	out = fterms.Canon(out)
	for i, b := range l {
		if !fterms.Legal(inLet(out[i])) {
			return nil, b.pos, api.ErrLimit
		}
	}
	return out, 0, api.OK
}

// inLet tells a term of a binding, which is none by itself.
func inLet(b api.Term) api.Term {
	return api.Term{Kind: api.TermLet, Kids: []api.Term{b, {Kind: api.TermInt}}}
}

// plainer puts variables in the place of fixed types, and Int in that of variables that nobody around binds.
type plainer struct {
	fixed map[int]fixedType
	bound map[int]int
	stand map[string]int // the variables that stand for fixed types here
}

func (p *plainer) term(t api.Term) api.Term {
	if t.Kind == api.TermAll || t.Kind == api.TermBind {
		for _, v := range t.Vars {
			p.bound[v]++
			if x, ok := p.fixed[v]; ok {
				p.stand[x.con] = v
			}
		}
	}
	out := api.Term{Kind: t.Kind, N: t.N, Name: t.Name, Vars: t.Vars}
	for _, u := range t.Types {
		out.Types = append(out.Types, p.typeOf(u))
	}
	for _, k := range t.Kids {
		out.Kids = append(out.Kids, p.term(k))
	}
	if t.Kind == api.TermAll || t.Kind == api.TermBind {
		for _, v := range t.Vars {
			p.bound[v]--
			if x, ok := p.fixed[v]; ok {
				delete(p.stand, x.con)
			}
		}
	}
	return out
}

func (p *plainer) typeOf(t api.Type) api.Type {
	if t.Con == "" && p.bound[t.Var] == 0 {
		return base("Int")
	}
	if v, ok := p.stand[t.Con]; ok {
		return api.Type{Var: v}
	}
	out := api.Type{Con: t.Con, Var: t.Var}
	for _, a := range t.Args {
		out.Args = append(out.Args, p.typeOf(a))
	}
	return out
}
