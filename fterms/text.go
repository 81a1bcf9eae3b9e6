package fterms

import (
	"strings"

	"envoy/api"
	"envoy/ftypes"
	"envoy/ints"
)

// Text tells a term's text.
func Text(t api.Term) string {
	if !Legal(t) {
		return ""
	}
	w := &writer{}
	w.term(t)
	return w.b.String()
}

type writer struct{ b strings.Builder }

func (w *writer) put(l ...string) {
	for _, s := range l {
		w.b.WriteString(s)
	}
}

func (w *writer) types(l []api.Type) {
	for i, t := range l {
		if i > 0 {
			w.put(", ")
		}
		w.put(ftypes.Text(api.Poly{Type: t}))
	}
}

func (w *writer) vars(l []int) {
	for i, v := range l {
		if i > 0 {
			w.put(", ")
		}
		w.put(ftypes.Text(api.Poly{Type: api.Type{Var: v}}))
	}
}

// between writes l with a text between each two.
func (w *writer) between(s string, l []api.Term) {
	for i, t := range l {
		if i > 0 {
			w.put(s)
		}
		w.term(t)
	}
}

func (w *writer) term(t api.Term) {
	last := len(t.Kids) - 1
	switch t.Kind {
	case api.TermVar, api.TermPatVar:
		w.put(t.Name)
	case api.TermInt, api.TermPatInt:
		w.put(ints.Text(t.N))
	case api.TermPatAny:
		w.put("_")
	case api.TermHole:
		w.put("?", ints.Text(t.N))
	case api.TermLam:
		w.put("(\\", t.Name, " : ")
		w.types(t.Types)
		w.put(". ")
		w.term(t.Kids[0])
		w.put(")")
	case api.TermApp:
		w.put("(")
		w.between(" ", t.Kids)
		w.put(")")
	case api.TermAll:
		w.put("(/")
		w.vars(t.Vars)
		w.put(". ")
		w.term(t.Kids[0])
		w.put(")")
	case api.TermInst:
		w.put("(")
		w.term(t.Kids[0])
		w.put(" [")
		w.types(t.Types)
		w.put("])")
	case api.TermCon:
		w.con(t)
	case api.TermCase:
		w.put("(case ")
		w.term(t.Kids[0])
		w.put(" {")
		w.between("; ", t.Kids[1:])
		w.put("})")
	case api.TermAlt:
		w.between(" -> ", t.Kids)
	case api.TermLet:
		w.put("(let {")
		w.between("; ", t.Kids[:last])
		w.put("} in ")
		w.term(t.Kids[last])
		w.put(")")
	default:
		w.other(t)
	}
}

func (w *writer) con(t api.Term) {
	if len(t.Types) == 0 {
		w.put(t.Name)
		return
	}
	w.put("(", t.Name, " [")
	w.types(t.Types)
	w.put("])")
}

func (w *writer) other(t api.Term) {
	switch t.Kind {
	case api.TermBind:
		w.put(t.Name, " [")
		w.vars(t.Vars)
		w.put("] : ")
		w.types(t.Types)
		w.put(" = ")
		w.term(t.Kids[0])
	case api.TermDict:
		w.put("({", t.Name, " ")
		w.types(t.Types)
		w.put("}")
		if len(t.Kids) > 0 {
			w.put(" ")
		}
		w.between(", ", t.Kids)
		w.put(")")
	case api.TermProj:
		w.put("(")
		w.term(t.Kids[0])
		w.put(".", t.Name, ".", ints.Text(t.N), ")")
	case api.TermPatCon:
		if len(t.Kids) == 0 {
			w.put(t.Name)
			return
		}
		w.put("(", t.Name, " ")
		w.between(" ", t.Kids)
		w.put(")")
	}
}
