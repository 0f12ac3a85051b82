package unit_test

import (
	"slices"
	"strconv"
	"strings"
	"testing"

	"graftery/api"
	"graftery/read"
	"graftery/unit"
)

func num(n int) api.Datum           { return api.Datum{Kind: api.DInt, N: n} }
func sym(s string) api.Datum        { return api.Datum{Kind: api.DSym, S: s} }
func list(l ...api.Datum) api.Datum { return api.Datum{Kind: api.DList, Items: l} }

func shape(name string, fields ...string) api.Shape { return api.Shape{Name: name, Fields: fields} }

// names: so many that are unlike, with a beginning.
func names(begin string, n int) []string {
	var l []string
	for i := range n {
		l = append(l, begin+strconv.Itoa(i))
	}
	return l
}

func join(l []string) string { return strings.Join(l, " ") }

// data of a text.
func data(t *testing.T, s string) []api.Datum {
	t.Helper()
	l, _, e := read.Read(s)
	if e != api.OK {
		t.Fatalf("%q: %v", s, e)
	}
	return l
}

// env: globals f, x, y, records p (a b) and q (c).
func env() api.Env {
	return api.Env{Globals: []string{"f", "x", "y"}, Shapes: []api.Shape{shape("p", "a", "b"), shape("q", "c")}}
}

// tellExpr: all that an expression has that is not zero.
func tellExpr(x api.Expr) string {
	kinds := []string{"?", "const", "local", "global", "if", "let", "lambda", "begin", "set", "call", "prim", "make", "is", "get", "put", "was"}
	s := kinds[x.Kind]
	if x.S != "" {
		s += ":" + x.S
	}
	if x.N != 0 {
		s += "#" + strconv.Itoa(x.N)
	}
	if len(x.Names) > 0 {
		s += "<" + join(x.Names) + ">"
	}
	if x.Datum.Kind != 0 {
		d, _ := read.Show(x.Datum)
		s += "=" + d
	}
	if len(x.Args) > 0 {
		s += "[" + tellAll(x.Args) + "]"
	}
	return s
}

func tellAll(l []api.Expr) string {
	var b []string
	for _, x := range l {
		b = append(b, tellExpr(x))
	}
	return join(b)
}

// tellUnit: a unit as text.
func tellUnit(u api.Unit) string {
	var b []string
	for _, s := range u.Shapes {
		b = append(b, "record "+s.Name+"<"+join(s.Fields)+">")
	}
	for _, d := range u.Defs {
		b = append(b, d.Name+" is "+tellExpr(d.Expr))
	}
	for _, x := range u.Upgrades {
		b = append(b, "upgrade "+x.Name+"["+tellAll(x.Exprs)+"]")
	}
	return strings.Join(b, "; ")
}

// forms: the text is this unit.
func forms(t *testing.T, s string, v api.Env, want string) {
	t.Helper()
	u, place, e := unit.Form(data(t, s), v)
	if got := tellUnit(u); e != api.OK || place != 0 || got != want {
		t.Errorf("%s: %s, %d, %v, want %s", s, got, place, e, want)
	}
}

// refuses: the text is refused, with this place, and no unit.
func refuses(t *testing.T, s string, v api.Env, place int, want api.Errno) {
	t.Helper()
	refusesData(t, data(t, s), v, place, want)
}

func refusesData(t *testing.T, l []api.Datum, v api.Env, place int, want api.Errno) {
	t.Helper()
	u, p, e := unit.Form(l, v)
	if e != want || p != place || !isZero(u) {
		t.Errorf("%v: %s, %d, %v, want place %d, %v", l, tellUnit(u), p, e, place, want)
	}
}

func isZero(u api.Unit) bool { return len(u.Shapes)+len(u.Defs)+len(u.Upgrades) == 0 }

// is: the expression, within a function of n and m, is this one.
func is(t *testing.T, s, want string) {
	t.Helper()
	forms(t, "(define (g n m) "+s+")", env(), "g is lambda<n m>["+want+"]")
}

// isNot: the expression, within a function of n and m, is refused.
func isNot(t *testing.T, s string, want api.Errno) {
	t.Helper()
	refuses(t, "(record r d) (define (g n m) "+s+")", env(), 1, want)
}

func sameShapes(a, b []api.Shape) bool {
	return slices.EqualFunc(a, b, func(x, y api.Shape) bool { return x.Name == y.Name && slices.Equal(x.Fields, y.Fields) })
}
