// Package keys tells texts that are the same just for what is the same; unlike the texts that are written, also of what may not be.
package keys

import (
	"strconv"

	"envoy/api"
)

// Type is t's key.
func Type(t api.Type) string { return string(typeTo(nil, t)) }

// Pred is p's key.
func Pred(p api.Pred) string { return string(typeTo(nameTo(nil, p.Class), p.Type)) }

// nameTo puts a name behind its length, so that no name runs into what follows.
func nameTo(b []byte, s string) []byte {
	b = strconv.AppendInt(b, int64(len(s)), 10)
	b = append(b, ':')
	return append(b, s...)
}

func typeTo(b []byte, t api.Type) []byte {
	b = nameTo(b, t.Con)
	b = strconv.AppendInt(b, int64(t.Var), 10)
	b = append(b, '(')
	for _, a := range t.Args {
		b = typeTo(b, a)
	}
	return append(b, ')')
}
