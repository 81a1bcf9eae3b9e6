package fterms

import (
	"strings"

	"envoy/api"
	"envoy/ftypes"
	"envoy/ints"
	"envoy/terms"
)

// Canon tells terms with bound names told by numbers.
func Canon(l []api.Term) []api.Term {
	c := &canon{vars: map[int][]int{}, names: map[string][]string{}}
	return c.terms(l)
}

// canon has the next numbers, and what each bound name is told as, the innermost one last.
type canon struct {
	nextVar, nextName int
	vars              map[int][]int
	names             map[string][]string
}

func (c *canon) terms(l []api.Term) []api.Term {
	var out []api.Term
	for _, t := range l {
		out = append(out, c.term(t))
	}
	return out
}

func (c *canon) term(t api.Term) api.Term {
	out := api.Term{Kind: t.Kind, N: t.N, Name: t.Name}
	var own []int
	out.Vars, own = c.enterVars(t)
	out.Types = c.types(t.Types)
	names := binds(t)
	for _, name := range names {
		as := name
		if t.Kind == api.TermLam && strings.HasPrefix(name, "#") {
			as = "#" + ints.Text(c.nextName)
			c.nextName++
			out.Name = as
		}
		c.names[name] = append(c.names[name], as)
	}
	if told := c.names[t.Name]; t.Kind == api.TermVar && len(told) > 0 {
		out.Name = told[len(told)-1]
	}
	out.Kids = c.terms(t.Kids)
	for _, name := range names {
		c.names[name] = c.names[name][:len(c.names[name])-1]
	}
	for _, v := range own {
		c.vars[v] = c.vars[v][:len(c.vars[v])-1]
	}
	return out
}

// enterVars tells a node's Vars by numbers, and those that it binds, each once.
func (c *canon) enterVars(t api.Term) ([]int, []int) {
	if !bindsVars(t) {
		return append([]int(nil), t.Vars...), nil
	}
	var told, own []int
	seen := map[int]struct{}{}
	for _, v := range t.Vars {
		if _, ok := seen[v]; !ok {
			seen[v] = struct{}{}
			own = append(own, v)
			c.vars[v] = append(c.vars[v], c.nextVar)
		}
		told = append(told, c.nextVar)
		c.nextVar++
	}
	return told, own
}

func (c *canon) types(l []api.Type) []api.Type {
	var out []api.Type
	for _, t := range l {
		var vars []int
		var types []api.Type
		for _, v := range terms.Vars(t) {
			if told := c.vars[v]; len(told) > 0 {
				vars = append(vars, v)
				types = append(types, api.Type{Var: told[len(told)-1]})
			}
		}
		out = append(out, ftypes.Put(t, vars, types))
	}
	return out
}
