package code_test

import (
	"testing"

	"graftery/api"
	"graftery/code"
	"graftery/vm"
)

func TestP53Constants(t *testing.T) {
	tells(t, "7", "7")
	tells(t, "-7", "-7")
	tells(t, "1099511627776", "1099511627776")
	tells(t, "#t", "#t")
	tells(t, "#f", "#f")
	tells(t, "'a", "a")
	tells(t, "'if", "if")
	tells(t, "'()", "()")
	tells(t, "'(1)", "[pair 1 ()]")
	tells(t, "'(1 a #f)", "[pair 1 [pair a [pair #f ()]]]")
	tells(t, "'(() (1 (2)) 3)", "[pair () [pair [pair 1 [pair [pair 2 ()] ()]] [pair 3 ()]]]")
	tells(t, "''a", "[pair quote [pair a ()]]")
}

// Each time a list is evaluated its pairs are new.
func TestP53ListsAreNew(t *testing.T) {
	tells(t, "(let ((f (lambda () '(1 2)))) (eq? (f) (f)))", "#f")
	tells(t, "(let ((f (lambda () '()))) (eq? (f) (f)))", "#t")
	tells(t, "(let ((l '(1 2))) (eq? l l))", "#t")
}

// A list takes a pair for each item, and nothing more.
func TestP53WhatListsMake(t *testing.T) {
	w, _, e := run(t, world(), parse(t, "'(1 (2 3) ())"), 1)
	if e != api.OK || len(w.Heap.Words) != 15 {
		t.Error(e, w.Heap.Words)
	}
}

func TestP53Variables(t *testing.T) {
	tells(t, "x", "2")
	tells(t, "y", "()")
	tells(t, "(begin (set! x 5) x)", "5")
	tells(t, "(let ((n 1)) (begin (set! n 5) n))", "5")
	// The value that it has then, not the one that it has later.
	tells(t, "(let ((n 1)) (cons n (begin (set! n 2) n)))", "[pair 1 2]")
	tells(t, "(cons x (begin (set! x 5) x))", "[pair 2 5]")
	tells(t, "(let ((n 1)) (let ((g (lambda () (set! n 2)))) (cons n (begin (g) n))))", "[pair 1 2]")
	// The innermost one counts.
	tells(t, "(let ((x 1)) x)", "1")
	tells(t, "(let ((n 1)) (let ((n 2)) n))", "2")
	tells(t, "(let ((n 1)) (begin (let ((n 2)) (set! n 3)) n))", "1")
	tells(t, "(let ((n 1)) (begin ((lambda (n) (set! n 3)) 2) n))", "1")
	tells(t, "(let ((n 1)) ((lambda () (let ((n 2)) n))))", "2")
	tells(t, "((lambda (n) ((lambda (m) (cons n m)) 2)) 1)", "[pair 1 2]")
}

// A Global and a Set of one may have the name of what is bound.
func TestP53GlobalsOfABoundName(t *testing.T) {
	x := let([]string{"x"}, constant(num(7)), begin(set(0, "x", constant(num(8))), prim("cons", local("x"), global("x"))))
	w, v, e := run(t, world(), x, api.MaxFuel)
	if got := show(w.Heap, v, 3); e != api.OK || got != "[pair 7 8]" {
		t.Error(got, e)
	}
	x = let([]string{"x"}, constant(num(7)), call(lambda(nil, begin(set(1, "x", global("x")), set(0, "x", local("x")), prim("cons", local("x"), global("x"))))))
	w, v, e = run(t, world(), x, api.MaxFuel)
	if got := show(w.Heap, v, 3); e != api.OK || got != "[pair 2 2]" {
		t.Error(got, e)
	}
}

func TestP53Ifs(t *testing.T) {
	for _, c := range []struct{ test, want string }{
		{"#t", "1"}, {"#f", "2"}, {"0", "1"}, {"'()", "1"}, {"'a", "1"}, {"'(1)", "1"}, {"(= 1 1)", "1"}, {"(= 1 2)", "2"}, {"(q)", "1"}, {"(lambda () 1)", "1"},
	} {
		tells(t, "(if "+c.test+" 1 2)", c.want)
		tells(t, "(cons 0 (if "+c.test+" 1 2))", "[pair 0 "+c.want+"]")
		tells(t, "(if (if "+c.test+" #t #f) 1 2)", c.want)
		tells(t, "((if "+c.test+" (lambda (n) 1) (lambda (n) n)) 2)", c.want)
	}
	// The other one is not evaluated.
	tells(t, "(begin (if #t 1 (set! x 3)) (if #f (set! x 4) 1) x)", "2")
	tells(t, "(if #f (error 1) 1)", "1")
}

func TestP53Begins(t *testing.T) {
	tells(t, "(begin 1 2)", "2")
	tells(t, "(begin (set! x 1) (set! x (+ x x)) (set! x (+ x x)) x)", "4")
	tells(t, "(cons (begin 1 2) (begin (begin 3 4) (begin 5 6)))", "[pair 2 6]")
}

func TestP53Lets(t *testing.T) {
	tells(t, "(let () 1)", "1")
	tells(t, "(let ((a 1) (b 2) (c 3) (d 4) (e 5) (g 6)) (cons a (cons b (cons c (cons d (cons e g))))))", "[pair 1 [pair 2 [pair 3 [pair 4 [pair 5 6]]]]]")
	// Values are evaluated one by one, ahead of all names.
	tells(t, "(let ((a (set! x (+ x 1))) (b x) (c (set! x (* x 10)))) (cons b x))", "[pair 3 30]")
	tells(t, "(let ((a 1)) (let ((a 2) (b a)) (cons a b)))", "[pair 2 1]")
	tells(t, "(let ((a 1) (b 2)) (let ((a b) (b a)) (cons a b)))", "[pair 2 1]")
	tells(t, "(let ((a 1) (b (let ((c 5) (d 6)) (+ c d))) (c 3)) (cons a (cons b c)))", "[pair 1 [pair 11 3]]")
	tells(t, "(let ((a 1)) (cons (let ((b 2)) b) (cons a (let ((c 3)) (cons a c)))))", "[pair 2 [pair 1 [pair 1 3]]]")
	tells(t, "(+ (let ((a 1)) (+ a (let ((b 2)) b))) (let ((c 4)) c))", "7")
}

func TestP53Sets(t *testing.T) {
	tells(t, "(set! x 1)", "()")
	tells(t, "(let ((n 1)) (set! n 2))", "()")
	tells(t, "(let ((n 1)) ((lambda () (set! n 2))))", "()")
	tells(t, "(cons (set! x 1) x)", "[pair () 1]")
	tells(t, "(let ((n 1)) (begin (set! n (+ n (begin (set! n 10) n))) n))", "11")
	tells(t, "(let ((n 1)) (let ((g (lambda () (begin (set! n 10) n)))) (begin (set! n (+ n (g))) n)))", "11")
	// What is set is set, even if the same is set within its argument.
	tells(t, "(let ((n 1)) (begin (set! n (begin (set! n 10) 2)) (cons n (lambda () (set! n 1)))))", "[pair 2 #fn]")
}

// Closures have what is bound around them: who changes that changes it for all.
func TestP53ClosuresShareWhatIsBound(t *testing.T) {
	tells(t, "(begin 1 (lambda (n) n))", "#fn")
	tells(t, "(let ((f (lambda () (lambda () 1)))) (eq? (f) (f)))", "#f")
	tells(t, "(let ((n 1)) ((lambda () n)))", "1")
	tells(t, "(let ((n 1)) (let ((g (lambda () n))) (begin (set! n 2) (g))))", "2")
	tells(t, "(let ((n 1)) (begin ((lambda () (set! n 2))) n))", "2")
	tells(t, "(let ((n 1)) (let ((g (lambda () (set! n (+ n 1)))) (h (lambda () n))) (begin (g) (g) (cons n (h)))))", "[pair 3 3]")
	tells(t, "((lambda (n) (begin ((lambda () (set! n (+ n 1)))) n)) 5)", "6")
	tells(t, "((lambda (n) (let ((g (lambda (k) (set! n k)))) (begin (g 7) (cons n (begin (g 8) n))))) 5)", "[pair 7 8]")
	// Through functions that do not use it themselves.
	tells(t, "(let ((n 1)) (begin (((lambda () (lambda () (set! n 9))))) n))", "9")
	tells(t, "(let ((n 1)) ((lambda () ((lambda () ((lambda () n)))))))", "1")
	tells(t, "(let ((n 1) (m 2)) (((lambda (k) (lambda (j) (cons n (cons m (cons k j))))) 3) 4))", "[pair 1 [pair 2 [pair 3 4]]]")
}

// Each call, and each Let, binds anew.
func TestP53EachCallBindsAnew(t *testing.T) {
	count := "(lambda () (let ((n 0)) (lambda () (begin (set! n (+ n 1)) n))))"
	tells(t, "(let ((c "+count+")) (let ((a (c)) (b (c))) (begin (a) (a) (cons (a) (b)))))", "[pair 3 1]")
	keep := "(lambda (n) (cons (lambda () n) (lambda (k) (set! n k))))"
	tells(t, "(let ((c "+keep+")) (let ((a (c 1)) (b (c 2))) (begin ((cdr a) 5) (cons ((car a)) ((car b))))))", "[pair 5 2]")
}

// A variable that is captured beside one of the same name further out.
func TestP53ClosuresOfOneName(t *testing.T) {
	tells(t, "(let ((n 1)) (let ((g (lambda () n))) (let ((n 2)) (let ((h (lambda () n))) (begin (set! n 3) (cons (g) (h)))))))", "[pair 1 3]")
	tells(t, "((lambda (n) (cons ((lambda () (let ((m n)) (let ((n 2)) (begin ((lambda () (set! n 7))) (cons n m)))))) n)) 1)", "[pair [pair 7 1] 1]")
	tells(t, "(let ((n 1)) ((lambda () (let ((m n) (n n)) (begin (set! n 5) (cons m (cons n ((lambda () n)))))))))", "[pair 1 [pair 5 5]]")
}

func TestP53Primitives(t *testing.T) {
	tells(t, "(- 7 2)", "5")
	tells(t, "(quotient -7 2)", "-3")
	tells(t, "(remainder -7 2)", "-1")
	tells(t, "(cons (* 3 4) (+ 1 1))", "[pair 12 2]")
	tells(t, "(< 1 2)", "#t")
	tells(t, "(< 2 1)", "#f")
	tells(t, "(= 2 1)", "#f")
	tells(t, "(eq? 'a 'a)", "#t")
	tells(t, "(car '(1 2))", "1")
	tells(t, "(cdr '(1 2))", "[pair 2 ()]")
	tells(t, "(null? '())", "#t")
	tells(t, "(pair? '())", "#f")
	tells(t, "(not #f)", "#t")
	// Arguments are evaluated one by one.
	tells(t, "(- (begin (set! x 10) x) (begin (set! x (+ x 1)) x))", "-1")
}

func TestP53Records(t *testing.T) {
	tells(t, "(p 1 2)", "[record0 1 2]")
	tells(t, "(q)", "[record1]")
	tells(t, "(p (begin (set! x 5) 1) x)", "[record0 1 5]")
	tells(t, "(p? (p 1 2))", "#t")
	tells(t, "(p? (q))", "#f")
	tells(t, "(p? 1)", "#f")
	tells(t, "(p-a (p 1 2))", "1")
	tells(t, "(p-b (p 1 2))", "2")
	tells(t, "(p-a! (p 1 2) 7)", "7")
	tells(t, "(let ((r (p 1 2))) (begin (p-b! r 7) r))", "[record0 1 7]")
	// Of a Put the record first, then the value.
	tells(t, "(let ((r (p 1 2))) (begin (p-b! (begin (set! x 5) r) (+ x 1)) r))", "[record0 1 6]")
	tells(t, "(let ((r (p 1 2))) (begin (p-b! r r) (eq? r (p-b r))))", "#t")
}

// A record of an older version is brought up when somebody looks at a field.
func TestP53RecordsAreBroughtUp(t *testing.T) {
	var moves []int
	w := world()
	for _, x := range []api.Expr{prim("+", was(0), constant(num(10))), constant(list(sym("new")))} {
		f, e := code.Move(x, 1)
		if e != api.OK {
			t.Fatal(e)
		}
		moves = append(moves, len(w.Funcs))
		w.Funcs = append(w.Funcs, f)
	}
	w.Recs[0] = api.Rec{Name: "p", Vers: []api.Shape{{Name: "p", Fields: []string{"c"}}, {Name: "p", Fields: []string{"a", "b"}}}, Moves: [][]int{moves}}
	w.Heap.Words = []api.Word{{Kind: api.Record}, number(0), number(1), number(1)}
	w.Globs[1].Value = api.Word{Kind: api.Ref}
	tellsIn(t, w, "(p-a x)", "11")
	tellsIn(t, w, "(begin (p-a! x 5) x)", "[record0 5 [pair new ()]]")
	tellsIn(t, w, "(eq? x (begin (p-a x) x))", "#t")
	costs(t, w, "(p-a x)", 2)
}

// Only a variable that closures share, and that changes, takes room.
func TestP53WhatVariablesMake(t *testing.T) {
	for _, c := range []struct {
		s     string
		words int
	}{
		{"(let ((n 1) (m 2)) (begin (set! n m) n))", 0},
		{"(let ((n 1)) (lambda () n))", 3},
		{"(let ((n 1) (m 2)) (lambda () 1))", 2},
		{"(let ((n 1)) (lambda () (set! n 2)))", 5},
		{"(let ((n 1)) (begin (set! n 2) (lambda () n)))", 5},
		{"(let ((n 1)) (begin (set! n 2) (lambda (n) n)))", 2},
		{"(let ((n 1)) (begin (lambda () n) (let ((n 2)) (set! n 3))))", 3},
		{"(let ((x 1)) (begin (lambda () x) (lambda (x) (set! x 2))))", 5},
		{"(let ((n 1) (m 2)) (lambda () (begin (set! n m) (+ n m))))", 6},
	} {
		if w, _, e := run(t, world(), parse(t, c.s), api.MaxFuel); e != api.OK || len(w.Heap.Words) != c.words {
			t.Errorf("%s: %v, %v, want %d words", c.s, e, w.Heap.Words, c.words)
		}
	}
	x := let([]string{"x"}, one(), begin(set(0, "x", one()), lambda(nil, local("x"))))
	if w, _, e := run(t, world(), x, api.MaxFuel); e != api.OK || len(w.Heap.Words) != 3 {
		t.Error(e, w.Heap.Words)
	}
}

// To evaluate an expression costs one, and nothing else does.
func TestP53Fuel(t *testing.T) {
	w := define(t, world(), "f", parse(t, "(lambda (n) (if (= n 0) 'done (f (- n 1))))"))
	for _, c := range []struct {
		s    string
		fuel int
	}{
		{"1", 1},
		{"'(1 (2 3) 4)", 1},
		{"x", 1},
		{"(begin 1 (lambda (n) (cons n n)))", 3},
		{"(if #t 1 2)", 3},
		{"(if #f 1 (cons 1 2))", 5},
		{"(begin 1 2 3)", 4},
		{"(let ((a 1) (b 2)) (+ a b))", 6},
		{"(set! x 1)", 2},
		{"(let ((n 1)) (set! n 2))", 4},
		{"(let ((n 1)) (lambda () (set! n 2)))", 3},
		{"(+ 1 2)", 3},
		{"(q)", 1},
		{"(p 1 2)", 3},
		{"(p? 1)", 2},
		{"(p-a (p 1 2))", 4},
		{"(p-a! (p 1 2) 3)", 5},
		{"((lambda () 1))", 3},
		{"((lambda (n) n) 1)", 4},
		{"((lambda (n) (begin ((lambda () (set! n 2))) n)) 1)", 9},
		{"(cons ((lambda () 1)) 2)", 5},
		{"(f 0)", 8},
		{"(f 1)", 17},
		{"(cons (f 1) (f 0))", 26},
	} {
		costs(t, w, c.s, c.fuel)
	}
}

// The fuel is asked for first: an expression for which there is none does
// nothing else, and fails with nothing else.
func TestP53FuelIsAskedForFirst(t *testing.T) {
	for _, c := range []struct {
		s    string
		fuel int
		want api.Errno
	}{
		{"(error 1)", 0, api.ErrFuel},
		{"(error 1)", 1, api.ErrFuel},
		{"(error 1)", 2, api.ErrRaise},
		{"(car 1)", 1, api.ErrFuel},
		{"(car 1)", 2, api.ErrKind},
		{"(1)", 1, api.ErrFuel},
		{"(1)", 2, api.ErrKind},
		{"(1 2)", 2, api.ErrFuel},
		{"(1 2)", 3, api.ErrKind},
		{"((lambda () (car 1)))", 3, api.ErrFuel},
		{"((lambda () (car 1)))", 4, api.ErrKind},
		{"((lambda (n) n))", 2, api.ErrCount},
	} {
		if _, _, e := run(t, world(), parse(t, c.s), c.fuel); e != c.want {
			t.Errorf("%s with %d of the fuel: %v, want %v", c.s, c.fuel, e, c.want)
		}
	}
}

// A Lambda's function tells the meaning of its body, of its arguments.
func TestP53FunctionsOfLambdas(t *testing.T) {
	w := define(t, world(), "f", parse(t, "(lambda (n m) (begin (set! x (cons n m)) ((lambda () (set! n m))) (cons n x)))"))
	v, x, e := vm.Call(w, w.Globs[0].Value, []api.Word{number(1), number(2)}, api.MaxFuel)
	if got := show(v.Heap, x, 9); e != api.OK || got != "[pair 2 [pair 1 2]]" {
		t.Error(got, e)
	}
	if _, _, e := vm.Call(w, w.Globs[0].Value, []api.Word{number(1)}, api.MaxFuel); e != api.ErrCount {
		t.Error(e)
	}
	for fuel := range 16 {
		want := api.ErrFuel
		if fuel >= 12 {
			want = api.OK
		}
		if _, _, e := vm.Call(w, w.Globs[0].Value, []api.Word{number(1), number(2)}, fuel); e != want {
			t.Errorf("with %d of the fuel: %v, want %v", fuel, e, want)
		}
	}
}

func TestP54Calls(t *testing.T) {
	w := define(t, world(), "f", parse(t, "(lambda (a b c) (cons a (cons b c)))"))
	tellsIn(t, w, "(f 1 2 3)", "[pair 1 [pair 2 3]]")
	tellsIn(t, w, "(cons 0 (f 1 2 3))", "[pair 0 [pair 1 [pair 2 3]]]")
	tells(t, "((lambda () 1))", "1")
	tells(t, "((lambda (a b c d e g) (cons (+ a b) (cons (- c d) (* e g)))) 1 2 3 4 5 6)", "[pair 3 [pair -1 30]]")
	// What is called is evaluated first, then the arguments, one by one.
	tellsIn(t, w, "(begin (f (set! x 5) x (set! x (+ x 1))) x)", "6")
	tellsIn(t, w, "(f (begin (set! f 1) 1) 2 3)", "[pair 1 [pair 2 3]]")
	tells(t, "((begin (set! x (lambda (n) (cons n y))) x) (begin (set! y 7) (set! x 1) 8))", "[pair 8 7]")
}

func TestP54CallsThatAreRefused(t *testing.T) {
	fails(t, "(f)", api.ErrKind)
	fails(t, "(f 1 2)", api.ErrKind)
	fails(t, "('a)", api.ErrKind)
	fails(t, "('(1) 1)", api.ErrKind)
	fails(t, "((p 1 2) 1)", api.ErrKind)
	fails(t, "(cons (f) 1)", api.ErrKind)
	fails(t, "((lambda (n) n))", api.ErrCount)
	fails(t, "((lambda () 1) 2)", api.ErrCount)
	fails(t, "(cons ((lambda () 1) 2) 1)", api.ErrCount)
	// Behind all arguments.
	fails(t, "(f (error 1))", api.ErrRaise)
	fails(t, "((lambda () 1) (error 1))", api.ErrRaise)
}

// loops: a function calls itself many times, and ends, or calls get too deep.
func loops(t *testing.T, body string, want api.Errno) {
	t.Helper()
	w := define(t, world(), "f", parse(t, "(lambda (n) "+body+")"))
	if _, _, e := run(t, w, parse(t, "(f 1000)"), api.MaxFuel); e != want {
		t.Errorf("%s: %v, want %v", body, e, want)
	}
}

func TestP54LastCalls(t *testing.T) {
	loops(t, "(if (= n 0) 1 (f (- n 1)))", api.OK)
	loops(t, "(if (not (= n 0)) (f (- n 1)) 1)", api.OK)
	loops(t, "(begin 1 (if (= n 0) 1 (begin 2 (f (- n 1)))))", api.OK)
	loops(t, "(let ((m n)) (if (= m 0) 1 (let ((k (- m 1))) (f k))))", api.OK)
	loops(t, "(let () (begin 1 (let () (if (if (= n 0) #t #f) 1 (if #t (f (- n 1)) 2)))))", api.OK)
	loops(t, "(if (= n 0) 1 ((lambda (k) (f k)) (- n 1)))", api.OK)
	loops(t, "(if (= n 0) 1 ((lambda () (begin (set! n (- n 1)) (f n)))))", api.OK)
	loops(t, "(begin (set! n (- n 1)) (if (= n 0) 1 (f n)))", api.OK)
}

func TestP54CallsThatAreNotLast(t *testing.T) {
	for _, s := range []string{
		"(if (= n 0) 1 (+ 1 (f (- n 1))))",
		"(if (= n 0) 1 (cons (f (- n 1)) 1))",
		"(if (= n 0) 1 (begin (f (- n 1)) 1))",
		"(if (= n 0) 1 (if (f (- n 1)) 1 2))",
		"(if (= n 0) 1 (let ((m (f (- n 1)))) m))",
		"(if (= n 0) 1 (set! x (f (- n 1))))",
		"(if (= n 0) 1 (set! n (f (- n 1))))",
		"(if (= n 0) (lambda (k) k) ((f (- n 1)) 1))",
		"(if (= n 0) 1 ((lambda (k) k) (f (- n 1))))",
		"(if (= n 0) 1 (p (f (- n 1)) 1))",
		"(if (= n 0) 1 (p? (f (- n 1))))",
		"(if (= n 0) 1 (p-a (f (- n 1))))",
		"(if (= n 0) 1 (p-a! (p 1 2) (f (- n 1))))",
		"(cons 1 (if (= n 0) 1 (f (- n 1))))",
		"(cons 1 (begin 1 (let () (if (= n 0) 1 (f (- n 1))))))",
	} {
		loops(t, s, api.ErrDeep)
	}
}

// What an expression that is no Lambda tells is what its function tells: a
// Call there is a last one, too.
func TestP54DeepestCalls(t *testing.T) {
	if api.MaxCalls != 100 {
		t.Fatal("MaxCalls is", api.MaxCalls)
	}
	w := define(t, world(), "f", parse(t, "(lambda (n) (if (= n 0) 0 (+ 1 (f (- n 1)))))"))
	for _, c := range []struct {
		s    string
		want api.Errno
	}{
		{"(f 99)", api.OK},
		{"(f 100)", api.ErrDeep},
		{"(begin 1 (f 99))", api.OK},
		{"(let ((n 99)) (if n (f n) 1))", api.OK},
		{"(+ 1 (f 98))", api.OK},
		{"(+ 1 (f 99))", api.ErrDeep},
		{"(begin (f 98) 1)", api.OK},
		{"(begin (f 99) 1)", api.ErrDeep},
		{"((lambda () (f 99)))", api.OK},
		{"(cons ((lambda () (f 98))) 1)", api.OK},
	} {
		if _, _, e := run(t, w, parse(t, c.s), api.MaxFuel); e != c.want {
			t.Errorf("%s: %v, want %v", c.s, e, c.want)
		}
	}
}

func TestP55Errors(t *testing.T) {
	fails(t, "(error 1)", api.ErrRaise)
	fails(t, "(begin (error 1) 2)", api.ErrRaise)
	fails(t, "(let ((n (error 1))) 2)", api.ErrRaise)
	fails(t, "(set! x (error 1))", api.ErrRaise)
	fails(t, "((lambda () (cons (error 1) 2)))", api.ErrRaise)
	fails(t, "(if (error 1) 1 2)", api.ErrRaise)
	fails(t, "(+ 1 'a)", api.ErrKind)
	fails(t, "(+ 1099511627776 1)", api.ErrRange)
	fails(t, "(quotient 1 0)", api.ErrRange)
	fails(t, "(p 1)", api.ErrCount)
	fails(t, "(p 1 2 3)", api.ErrCount)
	fails(t, "(p-a 1)", api.ErrKind)
	fails(t, "(p-a (q))", api.ErrKind)
	fails(t, "(p-a! 1 2)", api.ErrKind)
	// The first one tells.
	fails(t, "(+ (error 1) (car 1))", api.ErrRaise)
	fails(t, "(+ (car 1) (error 1))", api.ErrKind)
	fails(t, "(p (error 1))", api.ErrRaise)
	fails(t, "(p-a! 1 (error 1))", api.ErrRaise)
}

// Which fields there are is only known when a record is looked at.
func TestP55Fields(t *testing.T) {
	w := world()
	w.Recs[0].Vers[0].Fields = []string{"a", "c"}
	failsIn(t, w, "(p-b (p 1 2))", api.ErrField)
	failsIn(t, w, "(p-b! (p 1 2) 1)", api.ErrField)
	tellsIn(t, w, "(p-a (p 1 2))", "1")
}

func TestP55NoRoom(t *testing.T) {
	w := world()
	w.Heap.Limit = api.MinHeap
	failsIn(t, w, "'(1 2 3 4 5 6 7 8 9 10 11 12 13 14 15 16 17)", api.ErrRoom)
	tellsIn(t, w, "(begin '(1 2 3 4 5 6 7 8 9 10 11 12 13 14 15 16) '(1 2 3 4 5 6 7 8 9 10 11 12 13 14 15 16) 5)", "5")
	w = define(t, w, "f", parse(t, "(lambda (n l) (f 1 (cons n l)))"))
	failsIn(t, w, "(f 1 2)", api.ErrRoom)
	w = define(t, w, "f", parse(t, "(lambda (n l) (if (= n 0) l (f (- n 1) (cons n 1))))"))
	tellsIn(t, w, "(f 500 2)", "[pair 1 1]")
}
