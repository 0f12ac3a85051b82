package graft_test

import (
	"slices"
	"strconv"
	"strings"
	"testing"

	"graftery/api"
	"graftery/vm"
)

func TestP64Globals(t *testing.T) {
	w := grow(t, empty(400), "(define z 1) (define (f) z)", "(define b 2) (define z 9) (define (a) b) (define (f) a)")
	var l []string
	for _, g := range w.Globs {
		l = append(l, g.Name)
	}
	if !slices.Equal(l, []string{"z", "f", "b", "a"}) {
		t.Errorf("%v", l)
	}
	tells(t, w, "((f))", "2")
	tells(t, w, "z", "1")
}

// A value that is there is left out; it is neither compiled nor run.
func TestP64LeftOut(t *testing.T) {
	w := grow(t, empty(200), "(define x 1) (define (f) x)")
	for _, x := range []api.Expr{
		constant(2), global("y"), of(api.Make, "p", nil), prim("error", constant(1)), tooLong(),
		set(0, "x", constant(3)), let("n", lambda(constant(1)), local("n")),
	} {
		if n := grafted(t, w, unitOf(def("x", x))); !alike(n, w) {
			t.Errorf("%v: %v", x, n)
		}
		if n := grafted(t, w, unitOf(def("f", x))); !alike(n, w) {
			t.Errorf("%v: %v", x, n)
		}
	}
	// But it may become a function.
	n := grow(t, w, "(define (x n) (+ n 5))")
	tells(t, n, "((f) 2)", "7")
	if len(n.Funcs) != 3 {
		t.Errorf("%v", n.Funcs)
	}
}

// Who has the function that was there keeps it.
func TestP64FunctionsAnew(t *testing.T) {
	w := grow(t, empty(200), "(define (f) 1) (define old f) (define (g) (f))", "(define (f) 2)")
	tells(t, w, "(cons (f) (cons (g) (old)))", "(2 . (2 . 1))")
	if len(w.Funcs) != 4 {
		t.Errorf("%v", w.Funcs)
	}
}

func TestP64MostGlobals(t *testing.T) {
	all := names("g", api.MaxGlobs)
	for _, x := range []api.Expr{constant(7), lambda(constant(7))} {
		w := grafted(t, empty(200), defs(all, x))
		if len(w.Globs) != api.MaxGlobs {
			t.Errorf("%v", w.Globs)
		}
		grafted(t, w, defs(all, x))
		refuses(t, w, defs([]string{"g"}, x), api.ErrSize)
		refuses(t, w, defs([]string{"g3", "g"}, x), api.ErrSize)
		refuses(t, empty(200), defs(names("g", api.MaxGlobs+1), x), api.ErrSize)
		refuses(t, empty(200), defs(names("g", 20000), x), api.ErrSize)
	}
	refuses(t, empty(200), defs(names("g", api.MaxGlobs+1), global("none")), api.ErrSize) // ahead of ErrNone
	refuses(t, empty(200), defs(names("g", api.MaxGlobs), global("none")), api.ErrNone)
}

// withFunctions: a world that has so many.
func withFunctions(t *testing.T, w api.World, n int) api.World {
	t.Helper()
	w = vm.Copy(w)
	f := api.Func{Code: []api.Instr{{Op: api.OTick}, {Op: api.OConst, W: null()}, {Op: api.OReturn}}}
	for len(w.Funcs) < n {
		w.Funcs = append(w.Funcs, f)
	}
	w = vm.Copy(w)
	if vm.Check(w) != api.OK {
		t.Fatal("a world that may not be")
	}
	return w
}

func TestP64MostFunctions(t *testing.T) {
	base := grow(t, empty(200), "(record p a) (define x (p 1))")
	one := constant(1)
	for _, c := range []struct {
		takes int
		unit  api.Unit
	}{
		{1, unitOf(def("y", one))},
		{1, unitOf(def("y", lambda(one)))},
		{1, unitOf(def("x", lambda(one)))},
		{2, unitOf(def("y", lambda(lambda(one))))},
		{3, unitOf(def("y", begin(lambda(one), lambda(one))))},
		{2, unitOf(def("y", one), def("z", one), def("x", one))},
		{2, unitOf(shape("p", "a", "b"), upgrade("p", was(0), one))},
		{3, unitOf(shape("p", "a", "b"), upgrade("p", was(0), one), def("y", one))},
	} {
		w := grafted(t, withFunctions(t, base, api.MaxFuncs-c.takes), c.unit)
		if len(w.Funcs) != api.MaxFuncs {
			t.Errorf("%v: %d functions", c.unit, len(w.Funcs))
		}
		for n := range c.takes {
			refuses(t, withFunctions(t, base, api.MaxFuncs-n), c.unit, api.ErrSize)
		}
	}
	w := withFunctions(t, base, api.MaxFuncs)
	grafted(t, w, unitOf(def("x", one), shape("q"), shape("p"), upgrade("p")))
	refuses(t, w, unitOf(def("y", global("none"))), api.ErrSize) // ahead of ErrNone
	refuses(t, withFunctions(t, base, api.MaxFuncs-1), unitOf(def("y", global("none")), def("z", one)), api.ErrSize)
	refuses(t, withFunctions(t, base, api.MaxFuncs-1), unitOf(def("y", global("none"))), api.ErrNone)
	refuses(t, w, unitOf(shape("p", "a"), upgrade("p", prim("car", was(0)))), api.ErrSize) // ahead of what is tried
	// All of them may be of one definition.
	refuses(t, empty(200), unitOf(def("y", lambdas(api.MaxFuncs))), api.OK)
	refuses(t, empty(200), unitOf(def("y", lambdas(api.MaxFuncs+1))), api.ErrSize)
	refuses(t, empty(200), unitOf(def("y", begin(one, lambdas(api.MaxFuncs-1)))), api.OK)
	refuses(t, empty(200), unitOf(def("y", begin(one, lambdas(api.MaxFuncs)))), api.ErrSize)
	refuses(t, empty(200), unitOf(def("y", lambdas(20000)), def("z", one)), api.ErrSize)
}

// lambdas: so many, each one in another.
func lambdas(n int) api.Expr {
	x := constant(1)
	for range n {
		x = lambda(x)
	}
	return x
}

// Too long a function may be refused.
func TestP64TooLong(t *testing.T) {
	w := known(t)
	mayRefuse(t, w, unitOf(def("y", tooLong())), api.ErrSize)
	mayRefuse(t, w, unitOf(def("f", lambda(tooLong()))), api.ErrSize)
}

func TestP64NotThere(t *testing.T) {
	one, a := constant(1), []string{"a"}
	w := known(t)
	for _, x := range []api.Expr{
		global("y"), global("p"), set(0, "y", one), set(0, "x", global("y")),
		of(api.Make, "r", nil), of(api.Make, "x", nil), of(api.Make, "p", nil, one, global("y")),
		of(api.Is, "r", nil, one), of(api.Is, "p", nil, global("y")),
		of(api.Get, "r", a, one), of(api.Get, "p", a, global("y")),
		of(api.Put, "r", a, one, one), of(api.Put, "p", a, one, global("y")),
		let("n", global("y"), one), let("n", one, global("y")), let("y", one, global("y")), let("y", one, set(0, "y", one)),
		lambda(global("y")), prim("car", global("y")), begin(one, of(api.Make, "r", nil)),
		{Kind: api.If, Args: []api.Expr{one, one, global("y")}}, {Kind: api.Call, Args: []api.Expr{global("y")}},
	} {
		refuses(t, w, unitOf(def("g", lambda(x))), api.ErrNone)
		refuses(t, w, unitOf(def("z", x)), api.ErrNone)
		refuses(t, w, unitOf(def("f", lambda(x))), api.ErrNone)
		grafted(t, w, unitOf(def("g", lambda(x)), def("y", one), def("p", one), shape("r", "a"), shape("x")))
	}
	// ahead of what is tried, and of what is run
	refuses(t, w, unitOf(shape("p"), upgrade("p"), def("z", prim("error", one)), def("g", lambda(global("y")))), api.ErrNone)
	refuses(t, w, unitOf(shape("p", "a"), upgrade("p", prim("error", one)), def("g", lambda(global("y")))), api.ErrNone)
}

// A local needs no global, and a field no record that has it.
func TestP64There(t *testing.T) {
	one := constant(1)
	w := known(t)
	for _, x := range []api.Expr{
		let("y", one, local("y")), let("y", one, set(1, "y", one)),
		of(api.Get, "p", []string{"none"}, one), of(api.Put, "q", []string{"none"}, one, one), of(api.Make, "q", nil, one, one),
	} {
		grafted(t, w, unitOf(def("g", lambda(x))))
	}
	// What the unit tells is known in all of it, ahead of where it stands.
	n := grow(t, w, "(define (g n) (h n)) (define (h n) (r n x)) (record r a b)")
	tells(t, n, "(r-a (g 3))", "3")
}

func TestP66Closures(t *testing.T) {
	w := grow(t, empty(100), "(define (f n) n) (define g (lambda () f))")
	want := []api.Word{{Kind: api.Closure}, number(0), {Kind: api.Closure, N: 1}, number(0)}
	if !alike(w.Heap.Words, want) || value(w, "f") != ref(0) || value(w, "g") != ref(2) {
		t.Errorf("%v", w)
	}
	w = grow(t, w, "(define (g n) n)")
	want = append(want, api.Word{Kind: api.Closure, N: 2}, number(0))
	if !alike(w.Heap.Words, want) || value(w, "f") != ref(0) || value(w, "g") != ref(4) {
		t.Errorf("%v", w)
	}
}

// Functions are there ahead of all values, whatever their order is; these
// come one by one.
func TestP66Order(t *testing.T) {
	w := grow(t, empty(400), "(define a (f 1)) (define (f n) (cons n (cons a b))) (define b (begin (set! a (cons 8 a)) (f 2))) (define (g) b)")
	tells(t, w, "a", "(8 . (1 . (() . ())))")
	tells(t, w, "b", "(2 . ((8 . (1 . (() . ()))) . ()))")
	// What is told is the value, whatever was set on the way.
	w = grow(t, w, "(define c (begin (set! c 5) (set! a c) 6)) (define d (begin (set! f 3) f))")
	tells(t, w, "(cons a (cons c (cons d f)))", "(5 . (6 . (3 . 3)))")
	// A function that is said anew is new for all values.
	w = grow(t, w, "(define k (g)) (define (g) 'new)")
	tells(t, w, "k", "new")
}

func TestP66Fuel(t *testing.T) {
	loop := "(define (f n) (if (= n 0) 'end (f (- n 1))))"
	w := grow(t, empty(400), loop)
	// Each round but the last one takes 9, the last one 5, the first call 3.
	rounds := (api.MaxFuel - 8) / 9
	rest := api.MaxFuel - 8 - 9*rounds
	most := "(define y (begin " + strings.Repeat("1 ", rest-1) + "(f " + strconv.Itoa(rounds) + ")))"
	n := grow(t, w, most)
	tells(t, n, "y", "end")
	refusesSource(t, w, strings.Replace(most, "(begin ", "(begin 1 ", 1), api.ErrFuel)
	// Each one has all of it.
	tells(t, grow(t, w, most+strings.Replace(most, "y", "z", 1)), "(cons y z)", "(end . end)")
	refusesSource(t, w, "(define y (f -1))", api.ErrFuel)
}

func TestP66Refused(t *testing.T) {
	w := grow(t, known(t), "(define (deep n) (+ 1 (deep n)))")
	for _, c := range []struct {
		source string
		want   api.Errno
	}{
		{"(define y (quotient 1 0))", api.ErrRange},
		{"(define y (car 1))", api.ErrKind},
		{"(define y (5))", api.ErrKind},
		{"(define y (f))", api.ErrCount},
		{"(define y (p 1))", api.ErrCount},
		{"(define y (deep 1))", api.ErrDeep},
		{"(define y (error 1))", api.ErrRaise},
		{"(define y 1) (define z (error y)) (define (f) 1)", api.ErrRaise},
		{"(define y (error 1)) (define z (car 1))", api.ErrRaise}, // one by one
		{"(define z (car 1)) (define y (error 1))", api.ErrKind},
		{"(record p d) (upgrade p (was a)) (define z (car 1))", api.ErrKind},
		{"(record p d) (upgrade p (error 1)) (define z (car 1))", api.ErrRaise}, // what is tried is ahead
	} {
		refusesSource(t, w, c.source, c.want)
	}
	refuses(t, w, unitOf(def("y", of(api.Get, "p", []string{"none"}, global("x")))), api.ErrField)
}

// A closure takes two words; if these are not there the heap is collected.
func TestP66Room(t *testing.T) {
	full := func(live, dead int) api.World { // pairs that live, and that do not
		w := empty(api.MinHeap)
		last := null()
		for i := range live + dead {
			w.Heap.Words = append(w.Heap.Words, api.Word{Kind: api.Pair}, number(i), last)
			if i == live-1 {
				last = ref(3 * i)
				w.Globs = []api.Glob{{Name: "x", Value: last}}
				last = null()
			} else if i < live {
				last = ref(3 * i)
			}
		}
		return w
	}
	f := defs([]string{"f"}, lambda(constant(1)))
	w := grafted(t, full(16, 0), f) // 48 words, and two
	if len(w.Heap.Words) != 50 || value(w, "f") != ref(48) {
		t.Errorf("%v", w)
	}
	refuses(t, full(16, 0), defs([]string{"f", "g"}, lambda(constant(1))), api.ErrRoom)
	refuses(t, w, f, api.ErrRoom) // the old one lives as long as the new one is not there
	w = grafted(t, full(15, 1), defs([]string{"f", "g"}, lambda(constant(1))))
	if len(w.Heap.Words) != 49 || value(w, "x") != ref(0) || value(w, "f") != ref(3) || value(w, "g") != ref(47) {
		t.Errorf("%v", w)
	}
	// What is run takes room, too.
	pair := prim("cons", constant(1), constant(2))
	refuses(t, full(16, 0), defs([]string{"y"}, pair), api.ErrRoom)
	w = grafted(t, full(15, 1), defs([]string{"y"}, pair))
	if len(w.Heap.Words) != 48 || value(w, "y") != ref(45) {
		t.Errorf("%v", w)
	}
	refuses(t, full(15, 1), defs([]string{"y", "z"}, pair), api.ErrRoom)
}
