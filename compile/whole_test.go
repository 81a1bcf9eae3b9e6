package compile_test

import (
	"math/rand"
	"strconv"
	"strings"
	"testing"

	"envoy/api"
	"envoy/compile"
	"envoy/fterms"
	"envoy/nodes"
	"envoy/pdecls"
	"envoy/printer"
	"envoy/recheck"
	"envoy/scheme"
)

const heads = `data L a = E | C a (L a);
data P a b = P a b;
data F a = F (a -> a);
class Eq a where { eq :: a -> a -> Bool };
class Show a where { show :: a -> Int };
class (Show a, Eq a) => Ord a where { lt :: a -> a -> Bool; pick :: b -> a -> b };
class Def a where { def :: a };
instance Eq Int where { eq = eqInt };
instance Show Int where { show x = x };
instance Ord Int where { lt = ltInt; pick x y = x };
instance Def Int where { def = 7 };
instance Def Bool where { def = True };
instance Eq Bool where { eq x y = if x then y else False };
instance (Eq b, Eq a) => Eq (P a b) where { eq p q = case p of { P x y -> case q of { P z w -> if eq x z then eq y w else False } } };
instance Eq a => Eq (L a) where { eq p q = case p of { E -> True; C x y -> case q of { E -> False; C z w -> if eq x z then eq y w else False } } };
instance Show a => Show (L a) where { show p = case p of { E -> 0; C x y -> add (show x) (show y) } };
instance Ord a => Ord (L a) where { lt p q = eq p q; pick x y = x };
instance (Def a, Def b) => Def (P a b) where { def = P def def };
`

// maker makes random programs, of which many are well typed.
type maker struct{ r *rand.Rand }

func (m *maker) one(l ...string) string { return l[m.r.Intn(len(l))] }

func (m *maker) typ(depth int) string {
	if depth == 0 || m.r.Intn(3) == 0 {
		return m.one("a", "b", "Int", "Bool")
	}
	return m.one("L ("+m.typ(depth-1)+")", "P ("+m.typ(depth-1)+") ("+m.typ(depth-1)+")", "("+m.typ(depth-1)+") -> "+m.typ(depth-1))
}

func (m *maker) atom(names []string) string {
	if len(names) > 0 && m.r.Intn(3) > 0 {
		return names[m.r.Intn(len(names))]
	}
	return m.one("1", "2", "True", "E", "eq", "lt", "show", "def", "add", "P", "C", "F", "pick", "ltInt", "quot")
}

func (m *maker) exp(names []string, depth int) string {
	if depth == 0 {
		return m.atom(names)
	}
	sub := func(more ...string) string {
		return m.exp(append(append([]string{}, names...), more...), depth-1)
	}
	v := m.one("u", "v", "w", "x")
	w := m.one("u", "v", "w", "x")
	switch m.r.Intn(12) {
	case 0, 1:
		return "(\\ " + v + " -> " + sub(v) + ")"
	case 2:
		return "(if eq " + m.atom(names) + " " + m.atom(names) + " then " + sub() + " else " + sub() + ")"
	case 3:
		return "(case " + sub() + " of { C " + v + " _ -> " + sub(v) + "; _ -> " + sub() + " })"
	case 4:
		return "(case " + sub() + " of { P " + v + " q -> " + sub(v, "q") + " })"
	case 5:
		return "(let { " + v + " = " + sub(v) + " } in " + sub(v) + ")"
	case 6:
		if v == w {
			w = "y"
		}
		return "(let { " + v + " " + w + " = " + sub(w, v) + "; " + w + " = " + sub(v) + " } in " + sub(v, w) + ")"
	case 7:
		context := m.one("", "", "Eq a => ", "Ord a => ", "(Show a, Eq b) => ")
		return "(let { " + v + " :: " + context + "a -> " + m.typ(1) + "; " + v + " " + w + " = " + sub(v, w) + " } in " + sub(v) + ")"
	case 8:
		return "(" + m.one("eq", "lt", "P", "pick", "C") + " " + sub() + " " + sub() + ")"
	case 9:
		return m.atom(names)
	}
	return "(" + sub() + " " + m.atom(names) + ")"
}

// A ty is a type that an expression is made for; a variable's name begins small.
type ty struct {
	con  string
	args []ty
}

func (t ty) String() string {
	if t.con == "->" {
		return "(" + t.args[0].String() + " -> " + t.args[1].String() + ")"
	}
	s := t.con
	for _, a := range t.args {
		s += " " + a.String()
	}
	if len(t.args) > 0 {
		return "(" + s + ")"
	}
	return s
}

type named struct {
	name string
	of   ty
}

func (m *maker) ty(depth int) ty {
	if depth == 0 || m.r.Intn(3) == 0 {
		return ty{con: m.one("a", "b", "Int", "Bool", "Int")}
	}
	switch m.r.Intn(3) {
	case 0:
		return ty{"L", []ty{m.ty(depth - 1)}}
	case 1:
		return ty{"P", []ty{m.ty(depth - 1), m.ty(depth - 1)}}
	}
	return ty{"->", []ty{m.ty(depth - 1), m.ty(depth - 1)}}
}

// fit makes an expression of just that type, from names that have theirs.
func (m *maker) fit(l []named, t ty, depth int) string {
	var fitting []string
	for _, x := range l {
		if x.of.String() == t.String() {
			fitting = append(fitting, x.name)
		}
	}
	if len(fitting) > 0 && (depth <= 0 || m.r.Intn(3) == 0) {
		return m.one(fitting...)
	}
	if depth <= 0 || m.r.Intn(2) == 0 {
		return m.plain(l, t, depth)
	}
	v := "v" + strconv.Itoa(m.r.Intn(6))
	u := m.ty(1)
	with := append(append([]named{}, l...), named{v, u})
	switch m.r.Intn(7) {
	case 0:
		return "(if " + m.fit(l, ty{con: "Bool"}, depth-1) + " then " + m.fit(l, t, depth-1) + " else " + m.fit(l, t, depth-1) + ")"
	case 1:
		return "(case " + m.fit(l, ty{"L", []ty{u}}, depth-1) + " of { C " + v + " _ -> " + m.fit(with, t, depth-1) + "; _ -> " + m.fit(l, t, depth-1) + " })"
	case 2:
		return "(case " + m.fit(l, ty{"P", []ty{u, u}}, depth-1) + " of { P " + v + " _ -> " + m.fit(with, t, depth-1) + " })"
	case 3:
		return "(let { " + v + " = " + m.fit(l, u, depth-1) + " } in " + m.fit(with, t, depth-1) + ")"
	case 4:
		return "((\\ " + v + " -> " + m.fit(with, t, depth-1) + ") " + m.fit(l, u, depth-1) + ")"
	case 5:
		f := "k" + strconv.Itoa(m.r.Intn(4))
		own := append(append([]named{}, with...), named{f, ty{"->", []ty{u, t}}})
		return "(let { " + f + " " + v + " = " + m.fit(own, t, depth-1) + " } in " + f + " " + m.fit(l, u, depth-1) + ")"
	}
	return "(" + m.fit(l, ty{"->", []ty{u, t}}, depth-1) + " " + m.fit(l, u, depth-1) + ")"
}

// plain makes an expression by what its type is made of.
func (m *maker) plain(l []named, t ty, depth int) string {
	switch t.con {
	case "Int":
		switch {
		case depth <= 0 || m.r.Intn(3) == 0:
			return strconv.Itoa(m.r.Intn(5))
		case m.r.Intn(2) == 0:
			return "(show " + m.fit(l, m.ty(1), depth-1) + ")"
		}
		return "(add " + m.fit(l, t, depth-1) + " " + m.fit(l, t, depth-1) + ")"
	case "Bool":
		if depth <= 0 || m.r.Intn(4) == 0 {
			return m.one("True", "False")
		}
		u := m.ty(1)
		return "(" + m.one("eq", "eq", "lt") + " " + m.fit(l, u, depth-1) + " " + m.fit(l, u, depth-1) + ")"
	case "L":
		if depth <= 0 || m.r.Intn(3) == 0 {
			return "E"
		}
		return "(C " + m.fit(l, t.args[0], depth-1) + " " + m.fit(l, t, depth-1) + ")"
	case "P":
		return "(P " + m.fit(l, t.args[0], depth-1) + " " + m.fit(l, t.args[1], depth-1) + ")"
	case "->":
		v := "v" + strconv.Itoa(m.r.Intn(6))
		return "(\\ " + v + " -> " + m.fit(append(append([]named{}, l...), named{v, t.args[0]}), t.args[1], depth-1) + ")"
	}
	return "def"
}

func (m *maker) program() []string {
	names := []string{"f", "g", "h"}
	var l []string
	var typed []named
	for i, name := range names {
		if m.r.Intn(3) == 0 {
			args := m.one("", " u", " u v")
			around := append(append([]string{}, names[:i+1]...), strings.Fields(args)...)
			if m.r.Intn(4) == 0 {
				around = append(around, names...)
			}
			l = append(l, name+args+" = "+m.exp(around, 1+m.r.Intn(3)))
			continue
		}
		u, t := m.ty(1), m.ty(1)
		own := append(append([]named{}, typed...), named{"u", u}, named{"z", ty{con: "a"}})
		l = append(l, name+" u z = "+m.fit(own, t, 2+m.r.Intn(4)))
		if m.r.Intn(2) == 0 {
			typed = append(typed, named{name, ty{"->", []ty{u, {"->", []ty{{con: "a"}, t}}}}})
		}
	}
	return l
}

func schemes(u api.Unit) map[string]string {
	out := map[string]string{}
	for _, x := range u.Entries {
		out[x.Name] = scheme.Text(x.Scheme)
	}
	return out
}

func sameSchemes(a, b map[string]string) bool {
	for name, s := range a {
		if b[name] != s {
			return false
		}
	}
	return len(a) == len(b)
}

// sound tells that what was compiled is taken by the checker, and never gets stuck.
func sound(t *testing.T, s string, u api.Unit) {
	if at, e := recheck.Unit(u); e != api.OK {
		t.Fatalf("not taken: %d %d\n%s\n%s", at, e, s, fterms.Text(api.Term{Kind: api.TermLet, Kids: []api.Term{u.Binds[at], {Kind: api.TermInt}}}))
	}
	for i, x := range u.Entries {
		if e := recheck.Entry(u, i); e != api.OK {
			t.Fatalf("another type: %d\n%s", i, s)
		}
		r, _, e := compile.Run(s, x.Name, 500)
		if len(x.Scheme.Preds) > 0 {
			if e != api.ErrAmbiguous {
				t.Fatal(s, e)
			}
			continue
		}
		if e != api.OK || r.Kind == api.ResStuck {
			t.Fatalf("stuck: %s\n%s", x.Name, s)
		}
	}
}

// TestWhole: what is compiled is taken, has its types, never gets stuck; signatures that say what was inferred, and the order, change no scheme.
func TestWhole(t *testing.T) {
	m := &maker{rand.New(rand.NewSource(6))}
	compiled, overloaded := 0, 0
	for range 2500 {
		decls := m.program()
		s := heads + strings.Join(decls, ";\n")
		u, at, e := compile.Compile(s)
		if e != api.OK {
			if at < 0 || at > len(s) || e < api.ErrArg || e > api.ErrAmbiguous {
				t.Fatal(s, at, e)
			}
			continue
		}
		compiled++
		sound(t, s, u)
		have := schemes(u)
		for _, x := range have {
			if strings.Contains(x, "=>") {
				overloaded++
			}
		}
		v, at, e := compile.Compile(heads + decls[2] + ";" + decls[0] + ";" + decls[1])
		if e != api.OK || !sameSchemes(have, schemes(v)) {
			t.Fatal("another order", s, at, e, have, schemes(v))
		}
		signed := heads
		for i, name := range []string{"f", "g", "h"} {
			signed += name + " :: " + have[name] + ";" + decls[i] + ";"
		}
		w, at, e := compile.Compile(signed)
		if e == api.ErrAmbiguous {
			// A name that uses itself may do so at other types now, which no type may have.
			continue
		}
		if e != api.OK || !sameSchemes(have, schemes(w)) {
			t.Fatal("signatures", signed, at, e, have, schemes(w))
		}
		sound(t, signed, w)
	}

	if compiled < 150 || overloaded < 50 {
		t.Error("too few", compiled, overloaded)
	}
}

// TestPrinted: what is written is read as the same tree, and becomes the same program.
func TestPrinted(t *testing.T) {
	m := &maker{rand.New(rand.NewSource(7))}
	for range 500 {
		s := heads + strings.Join(m.program(), ";")
		n, at, e := pdecls.Program(s)
		if e != api.OK {
			t.Fatal(s, at, e)
		}
		text := printer.Program(n)
		again, at, e := pdecls.Program(text)
		if e != api.OK || !nodes.Same(n, again) || printer.Program(again) != text {
			t.Fatal(s, text, at, e)
		}
		u, _, e := compile.Compile(s)
		v, _, f := compile.Compile(text)
		if e != f || len(u.Binds) != len(v.Binds) {
			t.Fatal(s, e, f)
		}
		for i := range u.Binds {
			if !fterms.Same(u.Binds[i], v.Binds[i]) {
				t.Fatal(s, i)
			}
		}
	}
}

// TestTotal: any text becomes a program, or fails at a place within it.
func TestTotal(t *testing.T) {
	m := &maker{rand.New(rand.NewSource(8))}
	words := strings.Fields("data class instance where let in case of if then else _ ( ) { } ; , = | \\ -> => :: x y f A B Eq Int 1 2 -- - ' a b eq \n")
	for range 5000 {
		var s string
		if m.r.Intn(2) == 0 {
			for range m.r.Intn(30) {
				s += m.one(words...) + m.one(" ", " ", "", "\n")
			}
		} else {
			l := strings.Fields(heads + strings.Join(m.program(), ";\n"))
			for range 1 + m.r.Intn(3) {
				l[m.r.Intn(len(l))] = m.one(words...)
			}
			s = strings.Join(l, " ")
		}
		u, at, e := compile.Compile(s)
		if at < 0 || at > len(s) || e < api.OK || e > api.ErrAmbiguous || e == api.ErrArg || e == api.OK && at != 0 {
			t.Fatal(strconv.Quote(s), at, e)
		}
		if e == api.OK {
			sound(t, s, u)
		}
	}
}
