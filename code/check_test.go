package code_test

import (
	"slices"
	"testing"

	"graftery/api"
	"graftery/code"
)

// checks: Check answers so; and Compile refuses what Check refuses.
func checks(t *testing.T, x api.Expr, want api.Errno) {
	t.Helper()
	if got := code.Check(x); got != want {
		t.Errorf("%v: %v, want %v", x, got, want)
	}
	l, e := code.Compile(x, 0)
	if e != want || want != api.OK && len(l) != 0 {
		t.Errorf("Compile of %v: %d functions, %v, want %v", x, len(l), e, want)
	}
}

// moves: CheckMove answers so; and Move refuses what that refuses.
func moves(t *testing.T, x api.Expr, olds int, want api.Errno) {
	t.Helper()
	if got := code.CheckMove(x, olds); got != want {
		t.Errorf("%v of %d: %v, want %v", x, olds, got, want)
	}
	f, e := code.Move(x, olds)
	if e != want || want != api.OK && (f.Params != 0 || f.Locals != 0 || f.Capts != 0 || len(f.Code) != 0) {
		t.Errorf("Move of %v: %v, %v, want %v", x, f, e, want)
	}
}

// within a Lambda that binds n and m.
func within(x api.Expr) api.Expr { return lambda([]string{"n", "m"}, x) }

func TestP51Kinds(t *testing.T) {
	for _, kind := range []int{-1 << 63, -1, 0, 16, 17, 1<<63 - 1} {
		checks(t, api.Expr{Kind: kind}, api.ErrKind)
		checks(t, branch(one(), one(), api.Expr{Kind: kind}), api.ErrKind)
		moves(t, api.Expr{Kind: kind}, 0, api.ErrKind)
	}
	for _, x := range []api.Expr{
		one(), local("n"), global("x"), branch(one(), one(), one()), let(nil, one()), lambda(nil, one()), begin(one(), one()),
		set(1, "n", one()), set(0, "x", one()), call(one()), prim("car", one()), makes("p"), is("p", one()), get("p", "a", one()), put("p", "a", one(), one()),
	} {
		checks(t, within(x), api.OK)
	}
	moves(t, was(0), 1, api.OK)
}

// counts: with how many arguments, from 0 to 9, is an expression not refused
// with ErrCount?
func counts(t *testing.T, x api.Expr, want ...int) {
	t.Helper()
	for n := range 10 {
		x.Args = ones(n)
		e := code.Check(within(x))
		if slices.Contains(want, n) && e != api.OK || !slices.Contains(want, n) && e != api.ErrCount {
			t.Errorf("%v with %d arguments: %v", x, n, e)
		}
	}
}

func TestP51Counts(t *testing.T) {
	counts(t, constant(num(1)), 0)
	counts(t, local("n"), 0)
	counts(t, global("x"), 0)
	counts(t, expr(api.If), 3)
	counts(t, let(nil), 1)
	counts(t, let(names("a", 1)), 2)
	counts(t, let(names("a", 6)), 7)
	counts(t, let(names("a", 7)))
	counts(t, lambda(nil), 1)
	counts(t, lambda(names("a", 6)), 1)
	counts(t, lambda(names("a", 7)))
	counts(t, expr(api.Begin), 2, 3, 4, 5, 6, 7, 8, 9)
	counts(t, set(1, "n"), 1)
	counts(t, set(0, "x"), 1)
	counts(t, expr(api.Call), 1, 2, 3, 4, 5, 6, 7)
	counts(t, makes("p"), 0, 1, 2, 3, 4, 5, 6)
	counts(t, is("p"), 1)
	counts(t, get("p", "a"), 1)
	counts(t, put("p", "a"), 2)
	checks(t, begin(ones(500)...), api.OK)
	checks(t, api.Expr{Kind: api.Was, Args: ones(1)}, api.ErrCount)
	moves(t, api.Expr{Kind: api.Was, Args: ones(1)}, 1, api.ErrCount)
	if api.MaxArgs != 6 || api.MaxFields != 6 {
		t.Error("other limits than these tests know")
	}
}

func TestP51CountsOfPrimitives(t *testing.T) {
	for _, s := range []string{"+", "-", "*", "quotient", "remainder", "=", "<", "cons", "eq?"} {
		counts(t, prim(s), 2)
	}
	for _, s := range []string{"car", "cdr", "null?", "pair?", "not", "error"} {
		counts(t, prim(s), 1)
	}
	for _, s := range []string{"", "n", "x", "p", "quote", "if", "/", "list", "CAR", "eq"} {
		counts(t, prim(s))
	}
}

// A Get and a Put have just one name, which is one, if not a free one.
func TestP51FieldNames(t *testing.T) {
	for _, c := range []struct {
		l    []string
		want api.Errno
	}{
		{nil, api.ErrCount},
		{[]string{}, api.ErrCount},
		{[]string{"a", "b"}, api.ErrCount},
		{[]string{"a", "a"}, api.ErrCount},
		{[]string{""}, api.ErrCount},
		{[]string{"A"}, api.ErrCount},
		{[]string{"1a"}, api.ErrCount},
		{[]string{"-1"}, api.ErrCount},
		{[]string{long(api.MaxName + 1)}, api.ErrCount},
		{[]string{long(api.MaxName)}, api.OK},
		{[]string{"if"}, api.OK},
		{[]string{"car"}, api.OK},
		{[]string{"n"}, api.OK},
	} {
		checks(t, within(api.Expr{Kind: api.Get, S: "p", Names: c.l, Args: ones(1)}), c.want)
		checks(t, within(api.Expr{Kind: api.Put, S: "p", Names: c.l, Args: ones(2)}), c.want)
	}
}

func TestP51BoundNames(t *testing.T) {
	checks(t, local("n"), api.ErrNone)
	checks(t, local(""), api.ErrNone)
	checks(t, set(1, "n", one()), api.ErrNone)
	checks(t, within(local("n")), api.OK)
	checks(t, within(local("m")), api.OK)
	checks(t, within(local("k")), api.ErrNone)
	checks(t, within(local("x")), api.ErrNone)
	checks(t, within(local("car")), api.ErrNone)
	checks(t, within(set(1, "m", one())), api.OK)
	checks(t, within(set(1, "k", one())), api.ErrNone)
	checks(t, within(lambda([]string{"k"}, begin(local("k"), local("n")))), api.OK)
	checks(t, within(begin(lambda([]string{"k"}, one()), local("k"))), api.ErrNone)
	checks(t, begin(within(one()), local("n")), api.ErrNone)
}

// A Let binds its names in its last argument only.
func TestP51LetBinds(t *testing.T) {
	checks(t, let([]string{"k"}, one(), local("k")), api.OK)
	checks(t, let([]string{"k"}, local("k"), one()), api.ErrNone)
	checks(t, let([]string{"k", "l"}, one(), local("k"), one()), api.ErrNone)
	checks(t, let([]string{"k", "l"}, one(), one(), prim("+", local("k"), local("l"))), api.OK)
	checks(t, let([]string{"k"}, one(), let([]string{"k"}, local("k"), set(1, "k", local("k")))), api.OK)
	checks(t, let([]string{"k"}, let([]string{"l"}, one(), local("l")), local("l")), api.ErrNone)
}

func TestP51Sets(t *testing.T) {
	for _, n := range []int{-1 << 63, -1, 2, 3, 1<<63 - 1} {
		checks(t, within(set(n, "n", one())), api.ErrNone)
		checks(t, within(set(n, "x", one())), api.ErrNone)
	}
	// A global may have the name of what is bound.
	checks(t, within(set(0, "n", one())), api.OK)
	checks(t, within(global("n")), api.OK)
	checks(t, set(0, "x", one()), api.OK)
}

// S of some kinds must be free, and so must names that are bound.
func TestP51FreeNames(t *testing.T) {
	with := func(s string, want api.Errno) {
		t.Helper()
		for _, x := range []api.Expr{
			global(s), set(0, s, one()), makes(s), is(s, one()), get(s, "a", one()), put(s, "a", one(), one()),
			let([]string{s}, one(), one()), lambda([]string{s}, one()), let([]string{"k", s}, one(), one(), one()), lambda([]string{"k", s}, one()),
		} {
			checks(t, x, want)
		}
	}
	for _, s := range []string{
		"quote", "if", "let", "lambda", "begin", "set!", "record", "define", "upgrade", "was",
		"+", "-", "*", "quotient", "remainder", "=", "<", "cons", "eq?", "car", "cdr", "null?", "pair?", "not", "error",
		"", "A", "a b", "1", "-1", "(", "é", long(api.MaxName + 1),
	} {
		with(s, api.ErrNone)
	}
	for _, s := range []string{"a", "x", "p-a", "list", "/", "set", "car!", "--1", long(api.MaxName)} {
		with(s, api.OK)
	}
}

func TestP51NamesTwice(t *testing.T) {
	checks(t, lambda([]string{"a", "a"}, one()), api.ErrNone)
	checks(t, lambda([]string{"a", "b", "c", "d", "e", "b"}, one()), api.ErrNone)
	checks(t, let([]string{"a", "a"}, one(), one(), one()), api.ErrNone)
	checks(t, lambda([]string{"a", "b"}, lambda([]string{"b", "a"}, one())), api.OK)
}

func TestP51Data(t *testing.T) {
	bad := []api.Datum{{}, {Kind: 5}, num(api.MaxInt + 1), num(-api.MaxInt - 1), {Kind: api.DBool, N: 2}, sym(""), sym("A"), {Kind: api.DInt, S: "a"}, list(num(1), api.Datum{})}
	deep := num(1)
	for range api.MaxNest {
		deep = list(deep)
	}
	for _, d := range append(bad, deep) {
		checks(t, constant(d), api.ErrForm)
		moves(t, constant(d), 0, api.ErrForm)
	}
	for _, d := range []api.Datum{num(0), num(api.MaxInt), num(-api.MaxInt), {Kind: api.DBool, N: 1}, sym("if"), sym("car"), list(), list(sym("a"), list(num(1))), deep.Items[0]} {
		checks(t, constant(d), api.OK)
		moves(t, constant(d), 0, api.OK)
	}
}

func TestP51WasIsInUpgradesOnly(t *testing.T) {
	for _, n := range []int{-1, 0, 1, 6} {
		checks(t, was(n), api.ErrForm)
		checks(t, within(begin(one(), was(n))), api.ErrForm)
	}
}

// What a kind has not is not looked at.
func TestP51WhatAKindHasNot(t *testing.T) {
	for _, x := range []api.Expr{
		{Kind: api.Const, Datum: num(1), S: "A", N: 7, Names: []string{"", ""}},
		{Kind: api.If, Datum: api.Datum{Kind: 9}, S: "A", N: 7, Names: []string{"", ""}, Args: ones(3)},
		{Kind: api.Global, S: "x", N: 7, Names: []string{"", ""}, Datum: api.Datum{Kind: 9}},
		{Kind: api.Make, S: "p", N: 7, Names: []string{"", ""}, Datum: api.Datum{Kind: 9}},
		{Kind: api.Prim, S: "car", N: 7, Names: []string{"", ""}, Args: ones(1)},
		{Kind: api.Lambda, S: "A", N: 7, Args: ones(1)},
		{Kind: api.Let, S: "A", N: 7, Args: ones(1)},
	} {
		checks(t, x, api.OK)
	}
}

// bound: an expression in Lambdas that bind so many names.
func bound(n int, x api.Expr) api.Expr {
	for i := 0; i < n; i += api.MaxArgs {
		x = lambda(names("n"+string(rune('a'+i/api.MaxArgs)), min(api.MaxArgs, n-i)), x)
	}
	return x
}

func TestP51MostNames(t *testing.T) {
	if api.MaxLocals != 40 {
		t.Fatal("MaxLocals is", api.MaxLocals)
	}
	checks(t, bound(40, one()), api.OK)
	checks(t, bound(41, one()), api.ErrSize)
	checks(t, bound(39, let([]string{"k"}, one(), local("k"))), api.OK)
	checks(t, bound(40, let([]string{"k"}, one(), local("k"))), api.ErrSize)
	checks(t, bound(40, let(nil, one())), api.OK)
	checks(t, bound(40, lambda(nil, one())), api.OK)
	// Names that are bound anew count as often as they are.
	x := one()
	for range api.MaxLocals {
		x = let([]string{"k"}, one(), x)
	}
	checks(t, x, api.OK)
	checks(t, let([]string{"k"}, one(), x), api.ErrSize)
	// Those beside each other, and those of values, do not.
	checks(t, bound(39, begin(let([]string{"k"}, one(), one()), let([]string{"l"}, one(), one()))), api.OK)
	checks(t, bound(39, let([]string{"k"}, let([]string{"l"}, one(), one()), one())), api.OK)
}

// Too many names are told ahead of the body in which they are, and behind the
// values.
func TestP51WhereTooManyNamesAreTold(t *testing.T) {
	checks(t, bound(41, api.Expr{}), api.ErrSize)
	checks(t, bound(40, let([]string{"k"}, one(), api.Expr{})), api.ErrSize)
	checks(t, bound(40, let([]string{"k"}, api.Expr{}, one())), api.ErrKind)
	checks(t, bound(40, let([]string{"k"}, local("k"), one())), api.ErrNone)
	checks(t, bound(40, let([]string{"car"}, one(), one())), api.ErrNone)
	checks(t, bound(40, begin(let([]string{"k"}, one(), one()), api.Expr{})), api.ErrSize)
}

// Of one expression the error that is named first is told.
func TestP51WhichOfOneIsTold(t *testing.T) {
	bad := api.Datum{}
	for _, c := range []struct {
		x    api.Expr
		want api.Errno
	}{
		{api.Expr{Kind: 16, S: "A", Names: []string{"A"}, Datum: bad, Args: ones(9)}, api.ErrKind},
		{api.Expr{Kind: api.Const, Datum: bad, Args: ones(1)}, api.ErrCount},
		{api.Expr{Kind: api.Local, S: "k", Args: ones(1)}, api.ErrCount},
		{api.Expr{Kind: api.Global, S: "A", Args: ones(1)}, api.ErrCount},
		{api.Expr{Kind: api.Set, S: "A", N: 7}, api.ErrCount},
		{api.Expr{Kind: api.Get, S: "A", Names: []string{"B"}, Args: ones(1)}, api.ErrCount},
		{api.Expr{Kind: api.Put, S: "A", Names: []string{"a"}, Args: ones(1)}, api.ErrCount},
		{api.Expr{Kind: api.Make, S: "A", Args: ones(7)}, api.ErrCount},
		{api.Expr{Kind: api.Is, S: "A", Args: ones(2)}, api.ErrCount},
		{lambda([]string{"a", "a", "c", "d", "e", "f", "g"}, one()), api.ErrCount},
		{let([]string{"A"}, one()), api.ErrCount},
		{lambda([]string{"a", "a"}, api.Expr{}), api.ErrNone},
		{api.Expr{Kind: api.Was, N: -1, Args: ones(1)}, api.ErrCount},
	} {
		checks(t, c.x, c.want)
	}
}

// Outer ones are told ahead of what is in them, and those on the left ahead of
// others.
func TestP51WhichOfSeveralIsTold(t *testing.T) {
	kind, count, none, form := api.Expr{}, begin(one()), global("A"), was(0)
	l := []struct {
		x    api.Expr
		want api.Errno
	}{{kind, api.ErrKind}, {count, api.ErrCount}, {none, api.ErrNone}, {form, api.ErrForm}, {bound(41, kind), api.ErrSize}}
	for _, a := range l {
		checks(t, makes("A", a.x), api.ErrNone)
		checks(t, begin(a.x), api.ErrCount)
		checks(t, api.Expr{Kind: 99, Args: []api.Expr{a.x}}, api.ErrKind)
		checks(t, api.Expr{Kind: api.Was, Args: []api.Expr{a.x}}, api.ErrCount)
		checks(t, let([]string{"car"}, a.x, one()), api.ErrNone)
		for _, b := range l {
			for _, x := range []api.Expr{
				begin(a.x, b.x), branch(one(), a.x, b.x), call(a.x, b.x), prim("+", a.x, b.x), makes("p", a.x, b.x), put("p", "a", a.x, b.x),
				let([]string{"k"}, a.x, b.x), lambda(nil, begin(set(0, "x", a.x), b.x)), begin(call(is("p", get("p", "a", a.x))), b.x),
			} {
				checks(t, x, a.want)
			}
		}
	}
}

func TestP51MovesOfOldFields(t *testing.T) {
	for olds := range api.MaxFields + 1 {
		for n := -1; n <= olds+1; n++ {
			want := api.ErrForm
			if 0 <= n && n < olds {
				want = api.OK
			}
			moves(t, was(n), olds, want)
			moves(t, branch(one(), prim("car", was(n)), one()), olds, want)
		}
	}
	for _, olds := range []int{-1 << 63, -1, api.MaxFields + 1, 1<<63 - 1} {
		for _, x := range []api.Expr{one(), was(0), {}, begin(one()), local("n"), constant(api.Datum{})} {
			moves(t, x, olds, api.ErrRange)
		}
	}
}

func TestP51MovesArePure(t *testing.T) {
	for _, x := range []api.Expr{
		global("x"), let(nil, one()), lambda(nil, one()), begin(one(), one()), set(0, "x", one()), call(one()),
		makes("p"), is("p", one()), get("p", "a", one()), put("p", "a", one(), one()),
	} {
		moves(t, x, 2, api.ErrPure)
		moves(t, prim("cons", was(0), x), 2, api.ErrPure)
		moves(t, prim("cons", was(2), x), 2, api.ErrForm)
		moves(t, prim("cons", x, was(2)), 2, api.ErrPure)
	}
	moves(t, begin(make([]api.Expr, 2)...), 0, api.ErrPure)
	moves(t, lambda(names("n", 6), local("n0")), 0, api.ErrPure)
	// What else is wrong with such a one is told ahead of that.
	moves(t, begin(one()), 0, api.ErrCount)
	moves(t, global("A"), 0, api.ErrNone)
	moves(t, local("n"), 0, api.ErrNone)
	moves(t, set(1, "n", one()), 0, api.ErrNone)
	moves(t, lambda([]string{"a", "a"}, one()), 0, api.ErrNone)
	moves(t, prim("cons", one()), 0, api.ErrCount)
	moves(t, prim("list", one()), 0, api.ErrCount)
}

// nested: an expression in so many others, each made by a function.
func nested(n int, around func(api.Expr) api.Expr) api.Expr {
	x := one()
	for range n {
		x = around(x)
	}
	return x
}

// Very deep expressions end, and are not refused by Check.
func TestP51Deepest(t *testing.T) {
	const deepest = 1<<16 - 2
	for i, around := range []func(api.Expr) api.Expr{
		func(x api.Expr) api.Expr { return branch(x, one(), one()) },
		func(x api.Expr) api.Expr { return branch(one(), one(), x) },
		func(x api.Expr) api.Expr { return let(nil, x) },
		func(x api.Expr) api.Expr { return let([]string{"n"}, x, one()) },
		func(x api.Expr) api.Expr { return lambda(nil, x) },
		func(x api.Expr) api.Expr { return lambda(nil, begin(x, one())) },
		func(x api.Expr) api.Expr { return begin(x, one()) },
		func(x api.Expr) api.Expr { return set(0, "x", x) },
		func(x api.Expr) api.Expr { return call(x) },
		func(x api.Expr) api.Expr { return prim("+", one(), x) },
		func(x api.Expr) api.Expr { return put("p", "a", x, one()) },
	} {
		x := nested(deepest/2, around)
		if e := code.Check(x); e != api.OK {
			t.Errorf("case %d: %v", i, e)
		}
		if _, e := code.Compile(x, 0); e != api.OK && e != api.ErrSize {
			t.Errorf("Compile of case %d: %v", i, e)
		}
		if e := code.CheckMove(x, 0); e != api.OK && e != api.ErrPure {
			t.Errorf("CheckMove of case %d: %v", i, e)
		}
	}
	// Each function has the one outermost name from around it.
	x := lambda([]string{"n"}, nested(deepest-2, func(x api.Expr) api.Expr { return lambda(nil, x) }))
	inner := &x.Args[0]
	for inner.Kind == api.Lambda {
		inner = &inner.Args[0]
	}
	*inner = set(1, "n", local("n"))
	l, e := code.Compile(x, 0)
	if e != api.OK || len(l) != deepest-1 || l[len(l)-1].Capts != 1 {
		t.Errorf("%d functions, %v", len(l), e)
	}
}
