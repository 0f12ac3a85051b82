package graft_test

import (
	"testing"

	"graftery/api"
)

// known: a world with the records p of two fields, now, and q of none, and the
// globals x and f.
func known(t *testing.T) api.World {
	t.Helper()
	return grow(t, empty(400), "(record p c) (record q) (define x (p 1)) (define (f n) n)", "(record p a b) (upgrade p (was c) 2)")
}

func TestP62Nothing(t *testing.T) {
	for _, w := range []api.World{empty(api.MinHeap), known(t)} {
		if n := grafted(t, w, api.Unit{}); !alike(n, w) {
			t.Errorf("%v: %v", w, n)
		}
	}
}

func TestP62Records(t *testing.T) {
	good := shape("r", "a", "b", "c", "d", "e", "if")
	if w := grafted(t, known(t), unitOf(good)); !alike(w.Recs[2].Vers, []api.Shape{good}) {
		t.Errorf("%v", w.Recs)
	}
	for _, c := range []struct {
		want   api.Errno
		shapes []any
	}{
		{api.ErrForm, []any{shape("")}},
		{api.ErrForm, []any{shape("if")}},
		{api.ErrForm, []any{shape("car")}},
		{api.ErrForm, []any{shape("was")}},
		{api.ErrForm, []any{shape("P")}},
		{api.ErrForm, []any{shape(long(17))}},
		{api.OK, []any{shape(long(16))}},
		{api.ErrSize, []any{shape("r", "a", "b", "c", "d", "e", "f", "g")}},
		{api.ErrForm, []any{shape("r", "a", "1")}},
		{api.ErrTwice, []any{shape("r", "a", "b", "a")}},
		{api.ErrTwice, []any{shape("r", "a"), shape("r", "a")}},
		{api.ErrTwice, []any{shape("r"), shape("s"), shape("r", "b")}},
		{api.ErrTwice, []any{shape("q"), shape("q")}}, // though each one alone could come
		{api.ErrForm, []any{shape("r", "1"), shape("r")}},
		{api.ErrSize, []any{shape("r"), shape("r", "a", "b", "c", "d", "e", "f", "g")}}, // what CheckShape refuses is ahead
		{api.ErrTwice, []any{shape("r"), shape("r"), shape("if")}},                      // one by one
		{api.ErrForm, []any{shape("if"), shape("r"), shape("r")}},
		{api.ErrForm, []any{shape("if"), shape("if")}},
	} {
		refuses(t, known(t), unitOf(c.shapes...), c.want)
	}
}

func TestP62Definitions(t *testing.T) {
	one := constant(1)
	for _, c := range []struct {
		want api.Errno
		defs []any
	}{
		{api.OK, []any{def("y", one), def("p", one), def("q?", one), def("x-y!", one)}},
		{api.ErrForm, []any{def("", one)}},
		{api.ErrForm, []any{def("let", one)}},
		{api.ErrForm, []any{def("+", one)}},
		{api.ErrForm, []any{def("1", one)}},
		{api.ErrForm, []any{def(long(17), one)}},
		{api.OK, []any{def(long(16), one)}},
		{api.ErrTwice, []any{def("y", one), def("z", one), def("y", one)}},
		{api.ErrTwice, []any{def("f", lambda(one)), def("f", lambda(one))}},
		{api.ErrTwice, []any{def("x", one), def("x", lambda(one))}},
		{api.ErrKind, []any{def("y", api.Expr{})}},
		{api.ErrKind, []any{def("y", api.Expr{Kind: 16})}},
		{api.ErrCount, []any{def("y", begin(one))}},
		{api.ErrCount, []any{def("y", prim("+", one))}},
		{api.ErrNone, []any{def("y", local("n"))}},
		{api.ErrForm, []any{def("y", was(0))}},
		{api.ErrForm, []any{def("y", lambda(was(0)))}},
		{api.ErrSize, []any{def("y", bound(41, one))}},
		{api.OK, []any{def("y", bound(40, one))}},
		{api.ErrKind, []any{def("x", api.Expr{})}}, // one that would be left out, too
		{api.ErrSize, []any{def("x", bound(41, one))}},
		{api.ErrForm, []any{def("if", api.Expr{})}}, // the name is ahead of the expression
		{api.ErrTwice, []any{def("y", one), def("y", api.Expr{})}},
		{api.ErrForm, []any{def("if", one), def("if", one)}},
		{api.ErrKind, []any{def("y", api.Expr{}), def("y", one)}}, // one by one
		{api.ErrTwice, []any{def("y", one), def("y", one), def("if", one)}},
		{api.ErrForm, []any{def("if", one), def("y", api.Expr{})}},
		{api.ErrNone, []any{def("y", local("n")), def("if", one)}},
	} {
		refuses(t, known(t), unitOf(c.defs...), c.want)
	}
}

func TestP62Upgrades(t *testing.T) {
	one, p, q := constant(1), shape("p", "a", "d"), shape("q", "a")
	for _, c := range []struct {
		want api.Errno
		unit []any
	}{
		{api.OK, []any{p, upgrade("p", was(0), was(1))}},
		{api.OK, []any{q, p, upgrade("p", was(0), was(1)), upgrade("q", one)}},
		{api.OK, []any{shape("p"), upgrade("p")}},
		{api.ErrNone, []any{p, upgrade("r", one, one)}},
		{api.ErrNone, []any{p, upgrade("", one, one)}},
		{api.ErrNone, []any{upgrade("p", one, one)}},             // not in the unit
		{api.ErrNone, []any{shape("r", "a"), upgrade("r", one)}}, // not in the world
		{api.ErrNone, []any{def("r", one), upgrade("r", one)}},   // no record
		{api.ErrNone, []any{shape("r", "a"), upgrade("r"), upgrade("r")}},
		{api.ErrTwice, []any{p, upgrade("p", one, one), upgrade("p", one, one)}},
		{api.ErrTwice, []any{p, q, upgrade("p", one, one), upgrade("q", one), upgrade("p", one)}}, // ahead of the count
		{api.ErrCount, []any{p, upgrade("p", one)}},
		{api.ErrCount, []any{p, upgrade("p", one, one, one)}},
		{api.ErrCount, []any{p, upgrade("p")}},
		{api.ErrCount, []any{shape("p"), upgrade("p", one)}},
		{api.ErrCount, []any{p, upgrade("p", was(9))}}, // ahead of the expressions
		{api.ErrKind, []any{p, upgrade("p", one, api.Expr{})}},
		{api.ErrCount, []any{p, upgrade("p", one, prim("car"))}},
		{api.ErrForm, []any{p, upgrade("p", one, was(2))}},
		{api.ErrForm, []any{p, upgrade("p", one, was(-1))}},
		{api.ErrForm, []any{shape("p", "a", "b", "d"), upgrade("p", one, one, was(2))}}, // the old ones are those of the world
		{api.ErrForm, []any{q, upgrade("q", was(0))}},
		{api.ErrPure, []any{p, upgrade("p", one, global("x"))}},
		{api.ErrPure, []any{p, upgrade("p", one, lambda(one))}},
		{api.ErrPure, []any{p, upgrade("p", prim("car", begin(one, one)), was(9))}}, // one by one
		{api.ErrForm, []any{p, upgrade("p", was(9), global("x"))}},
		{api.ErrPure, []any{p, upgrade("p", one, global("x")), upgrade("p", one, one)}},
		{api.ErrPure, []any{p, upgrade("p", one, global("x")), upgrade("r")}},
		{api.ErrCount, []any{p, q, upgrade("q"), upgrade("p", one, global("x"))}},
		{api.ErrNone, []any{p, upgrade("r"), upgrade("p")}},
	} {
		refuses(t, known(t), unitOf(c.unit...), c.want)
	}
}

// Of all that is checked first the records are ahead of the definitions, and
// these of the upgrades; all of it is ahead of what is done then.
func TestP62Order(t *testing.T) {
	one := constant(1)
	for _, c := range []struct {
		want api.Errno
		unit []any
	}{
		{api.ErrTwice, []any{upgrade("r"), def("if", one), shape("r"), shape("r")}},
		{api.ErrForm, []any{upgrade("r"), def("if", one), shape("r")}},
		{api.ErrNone, []any{upgrade("r"), def("y", one), shape("r")}},
		{api.ErrForm, []any{shape("p", "b"), def("if", one)}},
		{api.ErrTwice, []any{shape("p", "b"), def("y", one), def("y", one)}},
		{api.ErrCount, []any{shape("p", "b"), shape("q", "a"), upgrade("q")}},
		{api.ErrPure, []any{def("y", global("z")), shape("q", "a"), upgrade("q", global("x"))}},
		{api.ErrCount, []any{def("y", tooLong()), shape("q", "a"), upgrade("q")}},
	} {
		refuses(t, known(t), unitOf(c.unit...), c.want)
	}
}
