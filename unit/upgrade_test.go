package unit_test

import (
	"testing"

	"graftery/api"
)

// moves: the expression, in an upgrade of p (a b) to p (d), is this one.
func moves(t *testing.T, s, want string) {
	t.Helper()
	forms(t, "(record p d) (upgrade p "+s+")", env(), "record p<d>; upgrade p["+want+"]")
}

// movesNot: it is refused.
func movesNot(t *testing.T, s string, want api.Errno) {
	t.Helper()
	refuses(t, "(record p d) (define z 1) (upgrade p "+s+")", env(), 2, want)
}

func TestP29Upgrades(t *testing.T) {
	forms(t, "(record p) (upgrade p)", env(), "record p<>; upgrade p[]")
	forms(t, "(upgrade p 1 2) (record p a b)", env(), "record p<a b>; upgrade p[const=1 const=2]")
	forms(t, "(record q) (record p c) (upgrade p 1) (upgrade q)", env(), "record q<>; record p<c>; upgrade p[const=1]; upgrade q[]")
	for _, s := range []string{"(upgrade p)", "(upgrade p 1 2)", "(upgrade r 1)", "(upgrade zz)", "(upgrade 1)", "(upgrade (p))", "(upgrade () 1)", "(upgrade #t)", "(upgrade if 1)", "(upgrade x)"} {
		refuses(t, "(record r d) "+s, env(), 1, api.ErrNone)
	}
	refuses(t, "(record p d) (upgrade p 1) (upgrade p 1)", env(), 2, api.ErrTwice)
	refuses(t, "(record p d) (upgrade p 1) (record q) (upgrade q) (upgrade p)", env(), 4, api.ErrTwice)
	refuses(t, "(record p d) (upgrade p)", env(), 1, api.ErrCount)
	refuses(t, "(record p d) (upgrade p 1 2)", env(), 1, api.ErrCount)
	refuses(t, "(record p d) (upgrade p x if)", env(), 1, api.ErrCount)
	refuses(t, "(record p) (upgrade p 1)", env(), 1, api.ErrCount)
	refuses(t, "(record r d) (upgrade r)", env(), 1, api.ErrNone)
	refuses(t, "(record p c d) (upgrade p x if)", env(), 1, api.ErrPure)
	refuses(t, "(record p c d) (upgrade p if x)", env(), 1, api.ErrForm)
	refuses(t, "(record p c d) (upgrade p 1 x)", env(), 1, api.ErrPure)
	// from the first top form on
	refuses(t, "(upgrade p x) (define z zz) (record p d)", env(), 0, api.ErrPure)
	refuses(t, "(define z zz) (upgrade p x) (record p d)", env(), 0, api.ErrNone)
}

func TestP29Expressions(t *testing.T) {
	moves(t, "1", "const=1")
	moves(t, "#f", "const=#f")
	moves(t, "'x", "const=x")
	moves(t, "'(was a)", "const=(was a)")
	moves(t, "(was a)", "was")
	moves(t, "(was b)", "was#1")
	moves(t, "(if (was b) (was a) '(1))", "if[was#1 was const=(1)]")
	moves(t, "(cons (was a) (+ 1 (was b)))", "prim:cons[was prim:+[const=1 was#1]]")
	moves(t, "(error 'no)", "prim:error[const=no]")
	for _, s := range twoOf {
		moves(t, "("+s+" 1 (was b))", "prim:"+s+"[const=1 was#1]")
		movesNot(t, "("+s+" x)", api.ErrCount)
	}
	for _, s := range oneOf {
		moves(t, "("+s+" (was b))", "prim:"+s+"[was#1]")
		movesNot(t, "("+s+" x x)", api.ErrCount)
	}
}

func TestP29Refused(t *testing.T) {
	// a name that is free, known or not
	for _, s := range []string{"x", "zz", "z", "p", "p-a", "a", "d"} {
		movesNot(t, s, api.ErrPure)
		movesNot(t, "(car "+s+")", api.ErrPure)
		movesNot(t, "("+s+")", api.ErrPure)
		movesNot(t, "("+s+" 1 2 3 4 5 6 7)", api.ErrPure)
	}
	// keywords, whatever is behind them
	for _, s := range []string{"let", "lambda", "begin", "set!", "record", "define", "upgrade"} {
		movesNot(t, "("+s+")", api.ErrPure)
		movesNot(t, "("+s+" 1 2)", api.ErrPure)
		movesNot(t, "(not ("+s+" x 1))", api.ErrPure)
	}
	// calls
	for _, s := range []string{"(f 1)", "(1 2)", "((was a))", "((lambda () 1))", "(p 1)", "(p? 1)", "(p-d 1)", "(zz 1)", "('f 1)", "(() 1)", "(#t)"} {
		movesNot(t, s, api.ErrPure)
	}
	for _, s := range []string{"()", "car", "if", "was", "quote", "(car ())", "(if car 1 2)", "(was)", "(was a b)", "(was 1)", "(was (a))", "(was 'a)", "(was #t)", "(was zz zz)"} {
		movesNot(t, s, api.ErrForm)
	}
	for _, s := range []string{"(was d)", "(was p)", "(was if)", "(was zz)"} {
		movesNot(t, s, api.ErrNone)
	}
	for _, s := range []string{"(if)", "(if 1 2)", "(if x x x x)", "(quote)", "(quote a b)"} {
		movesNot(t, s, api.ErrCount)
	}
	// from left to right, an outer one first
	movesNot(t, "(+ x ())", api.ErrPure)
	movesNot(t, "(+ () x)", api.ErrForm)
	movesNot(t, "(if (was d) x ())", api.ErrNone)
	movesNot(t, "(f ())", api.ErrPure)
}

// The old fields are those of the environment, by their places.
func TestP29OldFields(t *testing.T) {
	v := api.Env{Shapes: []api.Shape{shape("q", "z"), shape("p", "if", "b", "c", "d", "e", "was")}}
	forms(t, "(record p b) (upgrade p (+ (was was) (+ (was if) (was d))))", v,
		"record p<b>; upgrade p[prim:+[was#5 prim:+[was was#3]]]")
	refuses(t, "(record p z) (upgrade p (was z))", v, 1, api.ErrNone)
}

func TestP29WasElsewhere(t *testing.T) {
	for _, s := range []string{"(was a)", "(was)", "(was 1 2)", "(record p a)", "(record)", "(define x 1)", "(define)", "(upgrade p)", "(upgrade p zz)"} {
		isNot(t, s, api.ErrForm)
		isNot(t, "(car "+s+")", api.ErrForm)
		isNot(t, "(lambda (a) "+s+")", api.ErrForm)
		refuses(t, "(define z "+s+")", env(), 0, api.ErrForm)
	}
}
