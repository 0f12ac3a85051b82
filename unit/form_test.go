package unit_test

import (
	"testing"

	"graftery/api"
	"graftery/unit"
)

func TestP24Units(t *testing.T) {
	none := api.Env{}
	forms(t, "", none, "")
	forms(t, "", env(), "")
	forms(t, "(record p)", none, "record p<>")
	forms(t, "(record p a b) (record q if p)", none, "record p<a b>; record q<if p>")
	forms(t, "(define x 1)", none, "x is const=1")
	forms(t, "(define (f) 1)", none, "f is lambda[const=1]")
	forms(t, "(define (f n m) n m)", none, "f is lambda<n m>[begin[local:n local:m]]")
	forms(t, "(define f (lambda (n) n))", none, "f is lambda<n>[local:n]")
	forms(t, "(define (f f) f)", none, "f is lambda<f>[local:f]")
	forms(t, "(define x y) (record r) (define y (r)) (record s a)", none,
		"record r<>; record s<a>; x is global:y; y is make:r")
	forms(t, "(record p a) (upgrade p (was b)) (define (g) (p-a x))", env(),
		"record p<a>; g is lambda[get:p<a>[global:x]]; upgrade p[was#1]")
	// a name may be that of a global and of a record
	forms(t, "(record x a) (define x 1)", none, "record x<a>; x is const=1")
	// those of the environment may be told anew
	forms(t, "(record p) (define x 2)", env(), "record p<>; x is const=2")
}

// All that a unit tells is known in all its expressions, beside what the
// environment has.
func TestP24Known(t *testing.T) {
	forms(t, "(define (g) (h (s 1))) (define (h n) (s-d n)) (record s d)", env(),
		"record s<d>; g is lambda[call[global:h make:s[const=1]]]; h is lambda<n>[get:s<d>[local:n]]")
	refuses(t, "(define (g) (h 1))", env(), 0, api.ErrNone)
	refuses(t, "(define (g) (s-d 1))", env(), 0, api.ErrNone)
	refuses(t, "(define (g) h)", env(), 0, api.ErrNone)
	// a record that is told anew has only its new fields
	forms(t, "(define (g) (p-a 1))", env(), "g is lambda[get:p<a>[const=1]]")
	refuses(t, "(define (g) (p-a 1)) (record p d)", env(), 0, api.ErrNone)
	forms(t, "(define (g) (p-d 1)) (record p d)", env(), "record p<d>; g is lambda[get:p<d>[const=1]]")
}

func TestP24DataAreCheckedFirst(t *testing.T) {
	good, bad := data(t, "(define x 1)")[0], data(t, "(define x)")[0]
	deep := num(1)
	for range api.MaxNest {
		deep = list(deep)
	}
	for _, c := range []struct {
		d    api.Datum
		want api.Errno
	}{
		{api.Datum{}, api.ErrKind},
		{api.Datum{Kind: 5}, api.ErrKind},
		{list(sym("define"), sym("y"), num(api.MaxInt+1)), api.ErrRange},
		{list(sym("define"), sym("y"), sym("Y")), api.ErrForm},
		{list(sym("define"), sym("y"), api.Datum{Kind: api.DInt, S: "a"}), api.ErrForm},
		{list(sym("define"), sym("y"), deep), api.ErrDeep},
	} {
		refusesData(t, []api.Datum{c.d}, env(), 0, c.want)
		refusesData(t, []api.Datum{good, c.d, {}}, env(), 1, c.want)
		refusesData(t, []api.Datum{bad, good, c.d}, env(), 2, c.want)
		refusesData(t, []api.Datum{good, good, bad, c.d}, env(), 3, c.want)
	}
	// the deepest that may be
	quoted := list(sym("quote"), num(1))
	for range api.MaxNest - 3 {
		quoted = list(sym("quote"), quoted)
	}
	if _, place, e := unit.Form([]api.Datum{list(sym("define"), sym("y"), quoted)}, env()); e != api.OK || place != 0 {
		t.Error("the deepest:", place, e)
	}
}

func TestP24NoTopForm(t *testing.T) {
	for _, s := range []string{
		"1", "#t", "x", "record", "()", "(record)", "(define)", "(upgrade)", "(x)", "(1 2)", "((define x 1) 2)", "(let x)", "(x y z)",
		"(quote a)", "(begin (define x 1))", "(set! x 1)", "(was a)", "(car x)", "(if 1 2 3)", "(f x)", "(records p)",
	} {
		refuses(t, s, env(), 0, api.ErrForm)
		refuses(t, "(define z 1) "+s+" 7", env(), 1, api.ErrForm)
	}
}

func TestP24Records(t *testing.T) {
	none := api.Env{}
	for _, s := range []string{"(record 1)", "(record (p))", "(record #t a)", "(record () a)", "(record if)", "(record car a)", "(record p 1)", "(record p a (b))", "(record p a #f)", "(record p () a)", "(record p 'a)"} {
		refuses(t, s, none, 0, api.ErrForm)
	}
	forms(t, "(record p a b c d e f)", none, "record p<a b c d e f>")
	refuses(t, "(record q) (record p a b c d e f g)", none, 1, api.ErrSize)
	refuses(t, "(record p a b a)", none, 0, api.ErrTwice)
	refuses(t, "(record p) (record q) (record p a)", none, 2, api.ErrTwice)
	// names come ahead of their number, that ahead of two of one name, and a record ahead of its being told twice
	refuses(t, "(record p a b c d e f g 1)", none, 0, api.ErrForm)
	refuses(t, "(record if a b c d e f g)", none, 0, api.ErrForm)
	refuses(t, "(record p a a b c d e f)", none, 0, api.ErrSize)
	refuses(t, "(record p) (record p a b c d e f g)", none, 1, api.ErrSize)
	refuses(t, "(record p) (record p a 1)", none, 1, api.ErrForm)
	refuses(t, "(record p) (record p a) (record if)", none, 1, api.ErrTwice)
}

func TestP24Definitions(t *testing.T) {
	none := api.Env{}
	for _, s := range []string{
		"(define x)", "(define x 1 2)", "(define 1 2)", "(define #t 1)", "(define if 1)", "(define car 1)", "(define (f))", "(define () 1)",
		"(define (1) 1)", "(define ((f)) 1)", "(define (if) 1)", "(define (car n) 1)", "(define (#t) 1)", "(define 'a 1)", "(define 1 2 3)",
	} {
		refuses(t, s, none, 0, api.ErrForm)
		refuses(t, "(define (g) h) "+s, none, 1, api.ErrForm)
	}
	refuses(t, "(define x 1) (define x 2)", none, 1, api.ErrTwice)
	refuses(t, "(define x 1) (define y 1) (define (x) 2)", none, 2, api.ErrTwice)
	refuses(t, "(define (x) 1) (define x 2)", none, 1, api.ErrTwice)
	refuses(t, "(define x 1) (define x)", none, 1, api.ErrForm)
	refuses(t, "(define x 1) (define x 1) (define x)", none, 1, api.ErrTwice)
}

// What top forms are is told ahead of what is in their expressions.
func TestP24TopFormsComeFirst(t *testing.T) {
	refuses(t, "(define x z) (define x 1)", api.Env{}, 1, api.ErrTwice)
	refuses(t, "(define (x if) z) 1", api.Env{}, 1, api.ErrForm)
	refuses(t, "(upgrade 1) (record p a a)", api.Env{}, 1, api.ErrTwice)
	refuses(t, "(upgrade 1) (define x)", api.Env{}, 1, api.ErrForm)
	refuses(t, "(upgrade 1) (define x z)", api.Env{}, 0, api.ErrNone)
	refuses(t, "(define y 1) (define x z) (define z (+ 1 if))", api.Env{}, 2, api.ErrForm)
	refuses(t, "(define y 1) (define x zz) (define z (+ 1 if))", api.Env{}, 1, api.ErrNone)
}

// defines: so many definitions of names with this beginning.
func defines(begin string, n int, value string) []api.Datum {
	var l []api.Datum
	for _, s := range names(begin, n) {
		l = append(l, list(sym("define"), sym(s), sym(value)))
	}
	return l
}

func records(begin string, n int) []api.Datum {
	var l []api.Datum
	for _, s := range names(begin, n) {
		l = append(l, list(sym("record"), sym(s)))
	}
	return l
}

func TestP24TooMany(t *testing.T) {
	ok := func(l []api.Datum, v api.Env) {
		t.Helper()
		if u, place, e := unit.Form(l, v); e != api.OK || place != 0 || len(u.Defs)+len(u.Shapes) != len(l) {
			t.Errorf("%d top forms: %d, %v", len(l), place, e)
		}
	}
	some := api.Env{Globals: names("x", 38), Shapes: shapes(6)}
	ok(defines("y", 40, "y0"), api.Env{})
	refusesData(t, defines("y", 41, "y0"), api.Env{}, 41, api.ErrSize)
	ok(defines("y", 2, "x0"), some)
	refusesData(t, defines("y", 3, "x0"), some, 3, api.ErrSize)
	ok(defines("x", 40, "x0"), some) // told anew: not more
	refusesData(t, defines("x", 41, "x0"), some, 41, api.ErrSize)
	ok(records("q", 8), api.Env{})
	refusesData(t, records("q", 9), api.Env{}, 9, api.ErrSize)
	ok(records("q", 2), some)
	refusesData(t, records("q", 3), some, 3, api.ErrSize)
	ok(records("p", 8), some)
	refusesData(t, records("p", 9), some, 9, api.ErrSize)
	// globals and records are counted on their own
	ok(append(records("q", 2), defines("y", 2, "x0")...), some)
	// behind what top forms are, ahead of what is in them
	refusesData(t, defines("y", 41, "zz"), api.Env{}, 41, api.ErrSize)
	refusesData(t, append(defines("y", 41, "y0"), num(1)), api.Env{}, 41, api.ErrForm)
	refusesData(t, append(defines("y", 41, "y0"), defines("y", 1, "y0")...), api.Env{}, 41, api.ErrTwice)
	refusesData(t, append(records("q", 9), defines("y", 41, "y0")...), api.Env{}, 50, api.ErrSize)
	refusesData(t, append(data(t, "(upgrade zz)"), records("q", 9)...), api.Env{}, 10, api.ErrSize)
}

func TestP24Shapes(t *testing.T) {
	for i, c := range []struct {
		v    []api.Shape
		u    []api.Shape
		want []api.Shape
	}{
		{nil, nil, nil},
		{shapes(3), nil, shapes(3)},
		{nil, shapes(3), shapes(3)},
		{[]api.Shape{shape("p", "a"), shape("q")}, []api.Shape{shape("r", "b"), shape("p", "c", "d")}, []api.Shape{shape("p", "c", "d"), shape("q"), shape("r", "b")}},
		{[]api.Shape{shape("q"), shape("p", "a")}, []api.Shape{shape("p")}, []api.Shape{shape("q"), shape("p")}},
		{[]api.Shape{shape("p", "a"), shape("q")}, []api.Shape{shape("p"), shape("q", "b"), shape("r")}, []api.Shape{shape("p"), shape("q", "b"), shape("r")}},
		// also what Check refuses
		{[]api.Shape{shape("p", "a"), shape("q"), shape("p", "b")}, nil, []api.Shape{shape("p", "b"), shape("q")}},
		{nil, []api.Shape{shape("p", "a"), shape("q"), shape("p", "b")}, []api.Shape{shape("p", "b"), shape("q")}},
		{[]api.Shape{shape("", "A", "A")}, []api.Shape{shape("if", names("a", 9)...)}, []api.Shape{shape("", "A", "A"), shape("if", names("a", 9)...)}},
	} {
		if got := unit.Shapes(api.Env{Shapes: c.v}, api.Unit{Shapes: c.u}); !sameShapes(got, c.want) {
			t.Errorf("%d: %v, want %v", i, got, c.want)
		}
	}
	many := shapes(5000)
	if got := unit.Shapes(api.Env{Shapes: many}, api.Unit{Shapes: many}); !sameShapes(got, many) {
		t.Error("many records are others then")
	}
}

// Of units that were formed, too: the records that Form knows.
func TestP24ShapesOfUnits(t *testing.T) {
	u, _, e := unit.Form(data(t, "(record s) (record p e)"), env())
	want := []api.Shape{shape("p", "e"), shape("q", "c"), shape("s")}
	if got := unit.Shapes(env(), u); e != api.OK || !sameShapes(got, want) {
		t.Errorf("%v, want %v", got, want)
	}
}

// Long lists take no more than their share of time.
func TestManyTopForms(t *testing.T) {
	n := 200000
	refusesData(t, append(records("p", n), records("p", 1)...), api.Env{}, n, api.ErrTwice)
	refusesData(t, append(defines("x", n, "x0"), num(1)), api.Env{}, n, api.ErrForm)
}
