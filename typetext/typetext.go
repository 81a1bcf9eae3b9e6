// Package typetext writes types, those of System F, too.
package typetext

import (
	"strings"

	"envoy/api"
)

// Of tells a type's text, each variable as told.
func Of(t api.Type, variable func(v int) string) string {
	w := &writer{variable: variable}
	w.whole(t)
	return w.b.String()
}

type writer struct {
	b        strings.Builder
	variable func(v int) string
}

func isArrow(t api.Type) bool { return t.Con == "->" && len(t.Args) == 2 }

func (w *writer) whole(t api.Type) {
	switch {
	case t.Con == "":
		w.b.WriteString(w.variable(t.Var))
	case isArrow(t):
		w.in(t.Args[0], isArrow(t.Args[0]))
		w.b.WriteString(" -> ")
		w.whole(t.Args[1])
	default:
		w.b.WriteString(t.Con)
		for _, a := range t.Args {
			w.b.WriteByte(' ')
			w.in(a, len(a.Args) > 0)
		}
	}
}

func (w *writer) in(t api.Type, brackets bool) {
	if brackets {
		w.b.WriteByte('(')
	}
	w.whole(t)
	if brackets {
		w.b.WriteByte(')')
	}
}
