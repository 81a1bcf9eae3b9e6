package feval

import (
	"strings"

	"envoy/api"
	"envoy/prims"
)

// A value is what a term becomes.
type value interface {
	// apply tells what becomes of it with one more argument.
	apply(m *machine, x value) (value, bool)
	// leaf tells a term of the same text, but for a constructor's arguments.
	leaf() api.Term
}

// number is a number.
type number int

func (n number) term() api.Term { return api.Term{Kind: api.TermInt, N: int(n)} }

func (n number) leaf() api.Term { return n.term() }

func (n number) apply(m *machine, _ value) (value, bool) { return m.fail(api.ResStuck) }

// function is a TermLam, with the names around it.
type function struct {
	t  api.Term
	at *names
}

func (f *function) leaf() api.Term { return api.Term{Kind: api.TermLam} }

func (f *function) apply(m *machine, x value) (value, bool) {
	return m.visit(f.t.Kids[0], &names{values: map[string]value{f.t.Name: x}, around: f.at})
}

// constructor is a constructor with arguments.
type constructor struct {
	name string
	args []value
}

func (c *constructor) leaf() api.Term { return api.Term{Kind: api.TermCon, Name: c.name} }

func (c *constructor) apply(_ *machine, x value) (value, bool) {
	// Others may go on from the same arguments.
	args := append(make([]value, 0, len(c.args)+1), c.args...)
	return &constructor{c.name, append(args, x)}, true
}

// prim is what is always there, perhaps with its first argument.
type prim struct {
	name  string
	first value
}

func (p *prim) leaf() api.Term { return api.Term{Kind: api.TermLam} }

func (p *prim) apply(m *machine, x value) (value, bool) {
	if p.first == nil {
		return &prim{p.name, x}, true
	}
	a, ok := p.first.(number)
	if !ok {
		return m.fail(api.ResStuck)
	}
	b, ok := x.(number)
	if !ok {
		return m.fail(api.ResStuck)
	}
	t, kind := prims.Do(p.name, int(a), int(b))
	switch {
	case kind != api.ResValue:
		return m.fail(kind)
	case t.Kind == api.TermInt:
		return number(t.N), true
	}
	return &constructor{name: t.Name}, true
}

// record is a TermDict's fields, which wait.
type record struct {
	fields []api.Term
	at     *names
}

func (r *record) leaf() api.Term { return api.Term{Kind: api.TermDict} }

func (r *record) apply(m *machine, _ value) (value, bool) { return m.fail(api.ResStuck) }

// maxText is how long a text may be: parts that are shared are written each time.
const maxText = 1<<31 - 1

func textOf(v value) string {
	var b strings.Builder
	if !write(&b, v) {
		return ""
	}
	return b.String()
}

func write(b *strings.Builder, v value) bool {
	b.WriteString(prims.Text(v.leaf()))
	c, ok := v.(*constructor)
	if !ok {
		return b.Len() <= maxText
	}
	for _, x := range c.args {
		b.WriteByte(' ')
		brackets := inBrackets(x)
		if brackets {
			b.WriteByte('(')
		}
		if !write(b, x) {
			return false
		}
		if brackets {
			b.WriteByte(')')
		}
	}
	return b.Len() <= maxText
}

func inBrackets(v value) bool {
	if c, ok := v.(*constructor); ok {
		return len(c.args) > 0
	}
	n, ok := v.(number)
	return ok && n < 0
}
