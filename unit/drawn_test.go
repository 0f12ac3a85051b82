package unit_test

import (
	"slices"
	"testing"

	"graftery/api"
	"graftery/read"
	"graftery/unit"
)

// newDice: numbers that look drawn, the same each time.
func newDice(seed int) func(int) int {
	x := uint64(seed)*2862933555777941757 + 3037000493
	return func(most int) int {
		x = x*6364136223846793005 + 1442695040888963407
		return int(x>>33) % most
	}
}

// drawn datum of words that units have, with at most so many levels.
func drawn(next func(int) int, levels int) api.Datum {
	words := []string{"n", "x", "f", "p", "p-a", "p-a!", "p?", "q", "+", "car", "quote", "if", "let", "lambda", "begin", "set!", "was", "a", "record", "define", "upgrade", "zz", ""}
	switch kind := next(10); {
	case kind == 0:
		return api.Datum{Kind: next(6), N: next(3)}
	case kind < 5 || levels == 0:
		return sym(words[next(len(words))])
	}
	var l []api.Datum
	for range next(5) {
		l = append(l, drawn(next, levels-1))
	}
	return list(l...)
}

// drawnTop: a top form, whose parts are drawn.
func drawnTop(next func(int) int) api.Datum {
	l := []api.Datum{sym([]string{"record", "define", "define", "define", "upgrade"}[next(5)])}
	switch next(3) {
	case 0:
		l = append(l, sym([]string{"p", "q", "x", "g"}[next(4)]))
	case 1:
		l = append(l, list(sym("g"), sym("n"), sym("a")))
	}
	for range next(4) {
		l = append(l, drawn(next, 3))
	}
	return list(l...)
}

// What comes of drawn data: no panic, and a unit or an error with its place.
func TestDrawnData(t *testing.T) {
	oks := 0
	for i := range 40000 {
		next := newDice(i)
		var l []api.Datum
		for range next(3) {
			l = append(l, drawnTop(next))
		}
		u, place, e := unit.Form(l, env())
		switch {
		case e == api.OK && place == 0:
			oks++
			checkUnit(t, u, env())
		case e == api.OK || !isZero(u) || place < 0 || place > len(l):
			t.Fatalf("%v: %s, %d, %v", l, tellUnit(u), place, e)
		}
	}
	if oks < 1000 {
		t.Error("only", oks, "units were formed")
	}
}

// checkUnit: is all that a unit has as package api says?
func checkUnit(t *testing.T, u api.Unit, v api.Env) {
	t.Helper()
	globals := slices.Clone(v.Globals)
	for _, d := range u.Defs {
		globals = append(globals, d.Name)
	}
	after := api.Env{Globals: globals, Shapes: unit.Shapes(v, u)}
	for _, d := range u.Defs {
		if !mayBe(d.Expr, after, nil) {
			t.Fatalf("%s: %s may not be", d.Name, tellExpr(d.Expr))
		}
	}
	for _, x := range u.Upgrades {
		for _, y := range x.Exprs {
			if !isPure(y) {
				t.Fatalf("%s: %s is not pure", x.Name, tellExpr(y))
			}
		}
	}
}

// mayBe: is an expression, with these names bound around it, one?
func mayBe(x api.Expr, v api.Env, bound []string) bool {
	args, inner := len(x.Args), slices.Concat(bound, x.Names)
	named := slices.ContainsFunc(v.Shapes, func(s api.Shape) bool {
		return s.Name == x.S && (len(x.Names) == 0 || slices.Contains(s.Fields, x.Names[0]))
	})
	ok := false
	switch x.Kind {
	case api.Const:
		ok = args == 0 && read.Check(x.Datum) == api.OK
	case api.Local:
		ok = args == 0 && slices.Contains(bound, x.S)
	case api.Global:
		ok = args == 0 && !slices.Contains(bound, x.S) && slices.Contains(v.Globals, x.S)
	case api.If:
		ok = args == 3
	case api.Let:
		ok = args == len(x.Names)+1 && args <= api.MaxArgs+1
	case api.Lambda:
		ok = args == 1 && len(x.Names) <= api.MaxArgs
	case api.Begin:
		ok = args >= 2
	case api.Set:
		ok = args == 1 && (x.N == 1) == slices.Contains(bound, x.S) && (x.N == 1 || slices.Contains(v.Globals, x.S))
	case api.Call:
		ok = args >= 1 && args <= api.MaxArgs+1
	case api.Prim:
		ok = args == 2 && slices.Contains(twoOf, x.S) || args == 1 && slices.Contains(oneOf, x.S)
	case api.Make:
		ok = named && args <= api.MaxFields
	case api.Is:
		ok = named && args == 1
	case api.Get:
		ok = named && args == 1 && len(x.Names) == 1
	case api.Put:
		ok = named && args == 2 && len(x.Names) == 1
	}
	for i, a := range x.Args {
		binds := x.Kind == api.Lambda || x.Kind == api.Let && i == args-1
		if binds {
			ok = ok && mayBe(a, v, inner)
		} else {
			ok = ok && mayBe(a, v, bound)
		}
	}
	return ok
}

func isPure(x api.Expr) bool {
	ok := x.Kind == api.Const || x.Kind == api.If || x.Kind == api.Prim || x.Kind == api.Was
	for _, a := range x.Args {
		ok = ok && isPure(a)
	}
	return ok
}
