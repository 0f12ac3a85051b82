package code_test

import (
	"slices"
	"testing"

	"graftery/api"
	"graftery/code"
	"graftery/vm"
)

// compiles: an expression has so many functions, of which the first one has so
// many params; they may be, wherever they stand.
func compiles(t *testing.T, x api.Expr, funcs, params int) {
	t.Helper()
	for _, base := range []int{0, 1, 7, api.MaxFuncs - funcs} {
		l, e := code.Compile(x, base)
		if e != api.OK || len(l) != funcs || l[0].Params != params || l[0].Capts != 0 {
			t.Fatalf("%v: %v, %v, want %d functions, the first one of %d params", x, l, e, funcs, params)
		}
		w := world()
		for i := range base {
			w.Funcs = append(w.Funcs, constantly(i))
		}
		w.Funcs = append(w.Funcs, l...)
		if e := vm.Check(w); e != api.OK {
			t.Errorf("%v at %d: %v: %v", x, base, e, l)
		}
	}
}

func TestP52Functions(t *testing.T) {
	for _, c := range []struct {
		s             string
		funcs, params int
	}{
		{"1", 1, 0},
		{"'(a (b) #t)", 1, 0},
		{"x", 1, 0},
		{"(set! x 1)", 1, 0},
		{"(if x y 1)", 1, 0},
		{"(begin x (f 1) (f 2))", 1, 0},
		{"(let ((n 1) (m 2)) (+ n m))", 1, 0},
		{"(p 1 (q))", 1, 0},
		{"(p-a! x (p-b (p? y)))", 1, 0},
		{"(lambda () 1)", 1, 0},
		{"(lambda (n) n)", 1, 1},
		{"(lambda (a b c d e g) (f a b c d e g))", 1, 6},
		{"(lambda (n) (lambda (m k) n))", 2, 1},
		{"(lambda (n) (cons (lambda (m) (set! n m)) (lambda () n)))", 3, 1},
		{"(let ((n (lambda () 1))) (lambda (m) n))", 3, 0},
		{"((lambda (n) n) (lambda () 1))", 3, 0},
		{"(begin (lambda () (lambda () (lambda () x))) (if x (lambda () 1) (lambda () 2)))", 6, 0},
		{"(set! x (lambda () 1))", 2, 0},
		{"(p (lambda () 1) 2)", 2, 0},
		{"(lambda (n) (let ((m 1)) (lambda () (begin (set! m 2) (set! n m)))))", 2, 1},
	} {
		compiles(t, parse(t, c.s), c.funcs, c.params)
	}
}

// Nothing but what an expression names is needed in the world.
func TestP52NeedsOnlyWhatItNames(t *testing.T) {
	w := api.World{Heap: api.Heap{Limit: api.MinHeap}}
	load(t, w, parse(t, "(lambda (n) (cons (lambda (m) (set! n m)) '(x y f p)))"))
	w.Globs = []api.Glob{{Name: "x", Value: null()}}
	load(t, w, parse(t, "(set! x (lambda (n) x))"))
	w = world()
	w.Globs = nil
	load(t, w, parse(t, "(p-a! (p 1) (p? (p-b (q))))"))
}

func TestP52Base(t *testing.T) {
	for _, base := range []int{0, 1, api.MaxFuncs - 1, api.MaxFuncs} {
		if l, e := code.Compile(within(lambda(nil, one())), base); e != api.OK || len(l) != 2 {
			t.Errorf("at %d: %v, %v", base, l, e)
		}
	}
	for _, base := range []int{-1 << 63, -1, api.MaxFuncs + 1, 1<<63 - 1} {
		if l, e := code.Compile(one(), base); e != api.ErrRange || len(l) != 0 {
			t.Errorf("at %d: %v, %v", base, l, e)
		}
	}
}

// Closures are of functions behind base.
func TestP52PlacesBeginAtBase(t *testing.T) {
	for _, base := range []int{0, 3, 1990} {
		l, _ := code.Compile(parse(t, "(lambda (n) (begin (lambda () 1) (lambda () (lambda () n))))"), base)
		var places []int
		for _, f := range l {
			for _, in := range f.Code {
				if in.Op == api.OClose {
					places = append(places, in.A-base)
				}
			}
		}
		slices.Sort(places)
		if len(l) != 4 || !slices.Equal(places, []int{1, 2, 3}) {
			t.Errorf("at %d: %v", base, places)
		}
	}
}

// There may be more functions than a world may have: that is for others to say.
func TestP52ManyFunctions(t *testing.T) {
	l, e := code.Compile(begin(slices.Repeat([]api.Expr{lambda(nil, begin(lambda(nil, one()), one()))}, 1500)...), api.MaxFuncs)
	if e != api.OK || len(l) != 3001 {
		t.Errorf("%d functions, %v", len(l), e)
	}
}

// longest: what has just MaxCode instructions, in one function: one a Begin, a
// return, two for each Const and two more for the item of the list, and one
// between two.
func longest() api.Expr { return begin(append(ones(1998), constant(list(num(1))))...) }

func TestP52MostInstructions(t *testing.T) {
	if api.MaxCode != 6000 {
		t.Fatal("MaxCode is", api.MaxCode)
	}
	tooLong := begin(ones(2000)...)
	for _, around := range []func(api.Expr) api.Expr{
		func(x api.Expr) api.Expr { return x },
		func(x api.Expr) api.Expr { return within(x) },
		func(x api.Expr) api.Expr { return lambda(nil, within(x)) },
		func(x api.Expr) api.Expr { return begin(one(), within(x), within(one())) },
	} {
		l, e := code.Compile(around(longest()), 0)
		if e != api.OK || !slices.ContainsFunc(l, func(f api.Func) bool { return len(f.Code) == api.MaxCode }) {
			t.Fatalf("%d functions, %v", len(l), e)
		}
		w := world()
		w.Funcs = l
		if vm.Check(w) != api.OK {
			t.Error("functions that may not be")
		}
		if l, e := code.Compile(around(tooLong), 0); e != api.ErrSize || len(l) != 0 {
			t.Errorf("%d functions, %v", len(l), e)
		}
	}
	if _, e := code.Compile(constant(list(slices.Repeat([]api.Datum{list()}, 1<<20)...)), 0); e != api.ErrSize {
		t.Error(e)
	}
}

// Several functions, each of which is not too long, may be longer together.
func TestP52MostInstructionsOfEach(t *testing.T) {
	x := call(within(longest()), within(longest()), within(longest()))
	compiles(t, x, 4, 0)
}

func TestP52WhichIsTold(t *testing.T) {
	tooLong := begin(ones(2000)...)
	for _, c := range []struct {
		x    api.Expr
		base int
		want api.Errno
	}{
		{api.Expr{}, -1, api.ErrKind},
		{begin(one()), api.MaxFuncs + 1, api.ErrCount},
		{local("n"), -1, api.ErrNone},
		{was(0), -1, api.ErrForm},
		{bound(41, one()), -1, api.ErrSize},
		{tooLong, -1, api.ErrRange},
		{tooLong, api.MaxFuncs + 1, api.ErrRange},
		{begin(tooLong, api.Expr{}), 0, api.ErrKind},
		{tooLong, api.MaxFuncs, api.ErrSize},
	} {
		if l, e := code.Compile(c.x, c.base); e != c.want || len(l) != 0 {
			t.Errorf("%d functions, %v, want %v", len(l), e, c.want)
		}
	}
}

// 40 expressions and data are never too long, however much each one needs.
func TestP52ShortOnesAreNeverTooLong(t *testing.T) {
	all := []string{"a", "b", "c", "d", "e", "g"}
	use := func(s string) api.Expr { return set(1, s, local(s)) }
	x := begin(use("a"), use("b"), use("c"), use("d"), use("e"), use("g"))
	for range 6 {
		x = lambda(all, let(nil, lambda(nil, x)))
	}
	compiles(t, x, 12, 6)
	compiles(t, constant(list(slices.Repeat([]api.Datum{list()}, 38)...)), 1, 0)
	compiles(t, bound(40, one()), 7, 4)
}

// All 40 names are captured, and change.
func TestP52MostCaptures(t *testing.T) {
	var l []api.Expr
	x := bound(40, one())
	for y := x; y.Kind == api.Lambda; y = y.Args[0] {
		for _, s := range y.Names {
			l = append(l, set(1, s, local(s)))
		}
	}
	inner := &x
	for inner.Kind == api.Lambda {
		inner = &inner.Args[0]
	}
	*inner = lambda(nil, begin(l...))
	compiles(t, x, 8, 4)
}

// Locals are used anew, so that there are never more than may be.
func TestP52MostLocals(t *testing.T) {
	var l []api.Expr
	for range 30 {
		l = append(l, let(names("a", 6), append(ones(6), prim("cons", local("a0"), lambda(nil, set(1, "a1", one()))))...))
	}
	compiles(t, begin(l...), 31, 0)
	x := one()
	for range 20 {
		x = let([]string{"a", "b"}, one(), let([]string{"a"}, one(), local("a")), begin(set(1, "a", one()), x))
	}
	compiles(t, x, 1, 0)
}
