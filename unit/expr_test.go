package unit_test

import (
	"strings"
	"testing"

	"graftery/api"
	"graftery/unit"
)

func TestP25Atoms(t *testing.T) {
	is(t, "1", "const=1")
	is(t, "-1099511627776", "const=-1099511627776")
	is(t, "#t", "const=#t")
	is(t, "#f", "const=#f")
	is(t, "n", "local:n")
	is(t, "x", "global:x")
	is(t, "g", "global:g")
	isNot(t, "zz", api.ErrNone)
	isNot(t, "p", api.ErrNone) // a record is no value
	isNot(t, "p?", api.ErrNone)
	isNot(t, "car", api.ErrForm)
	isNot(t, "if", api.ErrForm)
	isNot(t, "was", api.ErrForm)
	// the innermost one counts: bound ahead of known
	is(t, "(lambda (x) x)", "lambda<x>[local:x]")
	is(t, "(lambda (n) (set! n n))", "lambda<n>[set:n#1[local:n]]")
	// nothing stays bound
	is(t, "((lambda (x) x) x)", "call[lambda<x>[local:x] global:x]")
	isNot(t, "((lambda (zz) zz) zz)", api.ErrNone)
	refuses(t, "(define (h n) n) (define (i) n)", api.Env{}, 1, api.ErrNone)
	refuses(t, "(define (h n) n) (define i n)", api.Env{}, 1, api.ErrNone)
}

func TestP25Lists(t *testing.T) {
	isNot(t, "()", api.ErrForm)
	is(t, "(f)", "call[global:f]")
	is(t, "(f n x 1)", "call[global:f local:n global:x const=1]")
	is(t, "(n)", "call[local:n]")
	is(t, "(1 2)", "call[const=1 const=2]")
	is(t, "(#t)", "call[const=#t]")
	is(t, "((f) n)", "call[call[global:f] local:n]")
	is(t, "('a 1)", "call[const=a const=1]")
	is(t, "((if n f g) 1)", "call[if[local:n global:f global:g] const=1]")
	isNot(t, "(() 1)", api.ErrForm)
	isNot(t, "(f ())", api.ErrForm)
	isNot(t, "(zz)", api.ErrNone)
	isNot(t, "(zz 1 2 3 4 5 6 7)", api.ErrNone)
}

func TestP25Calls(t *testing.T) {
	if api.MaxArgs != 6 {
		t.Fatal("MaxArgs is", api.MaxArgs)
	}
	for _, head := range []string{"f", "n", "(f)", "1"} {
		got, _, e := unit.Form(data(t, "(define (g n) ("+head+" 1 2 3 4 5 6))"), env())
		if e != api.OK || len(got.Defs) != 1 || got.Defs[0].Expr.Args[0].Kind != api.Call || len(got.Defs[0].Expr.Args[0].Args) != 7 {
			t.Errorf("%s: %v", head, e)
		}
		isNot(t, "("+head+" 1 2 3 4 5 6 7)", api.ErrCount)
	}
	// an outer one is told ahead of what is in it, and what is left ahead of what is right
	isNot(t, "(f 1 2 3 4 5 6 if)", api.ErrCount)
	isNot(t, "((zz) 1 2 3 4 5 6 7)", api.ErrCount)
	isNot(t, "(f zz if)", api.ErrNone)
	isNot(t, "(f if zz)", api.ErrForm)
	isNot(t, "((zz) if)", api.ErrNone)
	isNot(t, "(f (+ 1) zz)", api.ErrCount)
	isNot(t, "(+ zz)", api.ErrCount)
	isNot(t, "(+ zz if)", api.ErrNone)
	isNot(t, "(+ (f (if zz)) zz)", api.ErrCount)
}

// A name that is bound is that, whatever it is else; then a global, then what
// is made of a record.
func TestP25WhatANameIs(t *testing.T) {
	is(t, "(lambda (p) (p 1))", "lambda<p>[call[local:p const=1]]")
	is(t, "(lambda (p-a) (p-a 1))", "lambda<p-a>[call[local:p-a const=1]]")
	is(t, "(lambda (f) (f 1))", "lambda<f>[call[local:f const=1]]")
	is(t, "(p 1)", "make:p[const=1]")
	v := env()
	v.Globals = append(v.Globals, "p", "p-a", "p?")
	forms(t, "(define (g) (p (p-a 1 2) (p? 3) (p-b! 4 5)))", v,
		"g is lambda[call[global:p call[global:p-a const=1 const=2] call[global:p? const=3] put:p<b>[const=4 const=5]]]")
	forms(t, "(define p-a 1) (define (g) (p-a))", env(), "p-a is const=1; g is lambda[call[global:p-a]]")
}

func TestP26Quotes(t *testing.T) {
	is(t, "'a", "const=a")
	is(t, "'if", "const=if")
	is(t, "'()", "const=()")
	is(t, "'7", "const=7")
	is(t, "'(1 (zz) #t car)", "const=(1 (zz) #t car)")
	is(t, "''a", "const=(quote a)")
	isNot(t, "(quote)", api.ErrCount)
	isNot(t, "(quote a b)", api.ErrCount)
}

func TestP26Ifs(t *testing.T) {
	is(t, "(if n 1 x)", "if[local:n const=1 global:x]")
	is(t, "(if (if 1 2 3) 4 5)", "if[if[const=1 const=2 const=3] const=4 const=5]")
	for _, s := range []string{"(if)", "(if n)", "(if n 1)", "(if n 1 2 3)", "(if zz)", "(if zz zz zz zz)"} {
		isNot(t, s, api.ErrCount)
	}
	isNot(t, "(if zz if 1)", api.ErrNone)
	isNot(t, "(if 1 if zz)", api.ErrForm)
}

func TestP26Lambdas(t *testing.T) {
	is(t, "(lambda () 1)", "lambda[const=1]")
	is(t, "(lambda (k l) k)", "lambda<k l>[local:k]")
	is(t, "(lambda (k) n x k)", "lambda<k>[begin[local:n global:x local:k]]")
	is(t, "(lambda (k) (lambda (l) (k l n)))", "lambda<k>[lambda<l>[call[local:k local:l local:n]]]")
	is(t, "(lambda (a b c d e h) a)", "lambda<a b c d e h>[local:a]")
	for _, s := range []string{"(lambda)", "(lambda (k))", "(lambda 1)", "(lambda k)", "(lambda (k k))", "(lambda (1 2 3 4 5 6 7) 1)", "(lambda (a b c d e h h) zz)", "(lambda (a b c d e h i) a)"} {
		isNot(t, s, api.ErrCount)
	}
	for _, s := range []string{"(lambda k 1)", "(lambda 1 1)", "(lambda #t zz)", "(lambda (1) 1)", "(lambda (k 1) 1)", "(lambda ((k)) 1)", "(lambda (()) 1)", "(lambda (if) zz)", "(lambda (k car k) 1)", "(lambda (k #f) 1)"} {
		isNot(t, s, api.ErrForm)
	}
	for _, s := range []string{"(lambda (k k) 1)", "(lambda (k l k) zz)", "(lambda (k k 1) if)"} {
		isNot(t, s, api.ErrTwice)
	}
	isNot(t, "(lambda (k) zz)", api.ErrNone)
	// so of a definition
	for _, c := range []struct {
		s    string
		want api.Errno
	}{
		{"(define (h a b c d e f) a)", api.OK},
		{"(define (h a b c d e f g) zz)", api.ErrCount},
		{"(define (h a b c d e f a) zz)", api.ErrCount},
		{"(define (h 1) zz)", api.ErrForm},
		{"(define (h a (b)) zz)", api.ErrForm},
		{"(define (h a car) zz)", api.ErrForm},
		{"(define (h a a) zz)", api.ErrTwice},
		{"(define (h a a 1) zz)", api.ErrTwice},
		{"(define (h a) b)", api.ErrNone},
		{"(define (h a) a a b)", api.ErrNone},
	} {
		place := 1
		if c.want == api.OK {
			place = 0
		}
		if _, p, e := unit.Form(data(t, "(record r) "+c.s), api.Env{}); p != place || e != c.want {
			t.Errorf("%s: %d, %v, want %d, %v", c.s, p, e, place, c.want)
		}
	}
}

func TestP26Lets(t *testing.T) {
	is(t, "(let () 1)", "let[const=1]")
	is(t, "(let ((k 1)) k)", "let<k>[const=1 local:k]")
	is(t, "(let ((k n) (l x)) l k)", "let<k l>[local:n global:x begin[local:l local:k]]")
	is(t, "(let ((n x)) n)", "let<n>[global:x local:n]")
	is(t, "(let ((x x)) x)", "let<x>[global:x local:x]")
	is(t, "(let ((x n) (y x)) y)", "let<x y>[local:n global:x local:y]")
	is(t, "(let ((a 1) (b 2) (c 3) (d 4) (e 5) (h 6)) a)", "let<a b c d e h>[const=1 const=2 const=3 const=4 const=5 const=6 local:a]")
	for _, s := range []string{"(let)", "(let ())", "(let ((k 1)))", "(let k)", "(let 1)", "(let ((a 1) (b 2) (c 3) (d 4) (e 5) (h 6) (i zz)) a)", "(let ((a 1) (a 2) (1 3) (d 4) (e 5) (h 6) (i zz)) a)"} {
		isNot(t, s, api.ErrCount)
	}
	for _, s := range []string{
		"(let k 1)", "(let 1 1)", "(let #t zz)", "(let (k) 1)", "(let ((k)) 1)", "(let ((k 1 2)) 1)", "(let (()) 1)", "(let ((k 1) l) 1)", "(let (k 1) 1)",
		"(let ((1 2)) 1)", "(let (((k) 2)) 1)", "(let ((if 2)) 1)", "(let ((k zz) (car 2)) 1)", "(let ((k 1) (k 2) (l)) zz)",
		"(let ((a 1) (b 2) (c 3) (d 4) (e 5) (h 6) (i)) a)",
	} {
		isNot(t, s, api.ErrForm)
	}
	for _, s := range []string{"(let ((k 1) (k 2)) k)", "(let ((k zz) (l if) (k 1)) zz)", "(let ((k 1) (k 2) (1 3)) k)"} {
		isNot(t, s, api.ErrTwice)
	}
	// its names are not bound in its values; these come ahead of the body
	isNot(t, "(let ((k 1) (l k)) l)", api.ErrNone)
	isNot(t, "(let ((k k)) l)", api.ErrNone)
	isNot(t, "(let ((k zz) (l if)) (+ 1))", api.ErrNone)
	isNot(t, "(let ((k if) (l zz)) (+ 1))", api.ErrForm)
	isNot(t, "(let ((k 1)) (+ 1))", api.ErrCount)
}

func TestP27Bodies(t *testing.T) {
	is(t, "(begin 1)", "const=1")
	is(t, "(begin n x)", "begin[local:n global:x]")
	is(t, "(begin (begin 1 2) 3)", "begin[begin[const=1 const=2] const=3]")
	is(t, "(begin (begin n))", "local:n")
	isNot(t, "(begin)", api.ErrCount)
	isNot(t, "(begin 1 (begin))", api.ErrCount)
	isNot(t, "(begin zz if)", api.ErrNone)
	isNot(t, "(begin if zz)", api.ErrForm)
}

// nestedLambdas: of six names each, that bind so many names in all.
func nestedLambdas(n int, inner string) string {
	s := inner
	for ; n > 6; n -= 6 {
		s = "(lambda (a b c d e h) " + s + ")"
	}
	return "(lambda (" + join(names("k", n)) + ") " + s + ")"
}

func TestP27TooManyLocals(t *testing.T) {
	if api.MaxLocals != 40 {
		t.Fatal("MaxLocals is", api.MaxLocals)
	}
	for _, c := range []struct {
		s    string
		want api.Errno
	}{
		{nestedLambdas(40, "1"), api.OK},
		{nestedLambdas(41, "1"), api.ErrSize},
		{nestedLambdas(42, "1"), api.ErrSize},
		{nestedLambdas(40, "(lambda () 1)"), api.OK},
		{nestedLambdas(40, "(lambda (m) 1)"), api.ErrSize},
		{nestedLambdas(40, "(let () (begin 1 2))"), api.OK},
		{nestedLambdas(40, "(let ((m 1)) 1)"), api.ErrSize},
		{nestedLambdas(39, "(let ((m 1)) m)"), api.OK},
		{nestedLambdas(38, "(begin (let ((l 1) (m 1)) 1) (lambda (m l) l))"), api.OK},
		{nestedLambdas(38, "(begin (let ((l 1) (m 1)) 1) (lambda (m l k) l))"), api.ErrSize},
		// ahead of what is in the body, behind the names and values
		{nestedLambdas(40, "(lambda (m) if zz)"), api.ErrSize},
		{nestedLambdas(40, "(lambda (m m) 1)"), api.ErrTwice},
		{nestedLambdas(40, "(lambda (if) 1)"), api.ErrForm},
		{nestedLambdas(40, "(let ((m zz)) 1)"), api.ErrNone},
		{nestedLambdas(40, "(let ((m (lambda (l) 1))) zz)"), api.ErrSize},
		{nestedLambdas(40, "(begin)"), api.ErrCount},
	} {
		if _, _, e := unit.Form(data(t, "(define x "+c.s+")"), api.Env{}); e != c.want {
			t.Errorf("%s: %v, want %v", c.s, e, c.want)
		}
	}
	// those of a definition count, too
	inner := nestedLambdas(38, "1")
	if _, _, e := unit.Form(data(t, "(define (x k l) "+inner+")"), api.Env{}); e != api.OK {
		t.Error("40 names with those of a definition:", e)
	}
	refuses(t, "(define (x k l m) "+inner+")", api.Env{}, 0, api.ErrSize)
}

func TestP27Sets(t *testing.T) {
	is(t, "(set! n 1)", "set:n#1[const=1]")
	is(t, "(set! x n)", "set:x[local:n]")
	is(t, "(set! g g)", "set:g[global:g]")
	is(t, "(lambda (x) (set! x 1))", "lambda<x>[set:x#1[const=1]]")
	for _, s := range []string{"(set!)", "(set! n)", "(set! n 1 2)", "(set! 1)", "(set! zz zz zz)"} {
		isNot(t, s, api.ErrCount)
	}
	for _, s := range []string{"(set! 1 2)", "(set! (n) 1)", "(set! #t zz)", "(set! () 1)", "(set! car 1)", "(set! if zz)"} {
		isNot(t, s, api.ErrForm)
	}
	isNot(t, "(set! zz 1)", api.ErrNone)
	isNot(t, "(set! zz if)", api.ErrNone)
	isNot(t, "(set! p 1)", api.ErrNone)
	isNot(t, "(set! n zz)", api.ErrNone)
	isNot(t, "(set! n if)", api.ErrForm)
}

func TestP28Records(t *testing.T) {
	is(t, "(p)", "make:p")
	is(t, "(p n 2)", "make:p[local:n const=2]")
	is(t, "(p 1 2 3 4 5 6)", "make:p[const=1 const=2 const=3 const=4 const=5 const=6]")
	is(t, "(p? n)", "is:p[local:n]")
	is(t, "(p-a n)", "get:p<a>[local:n]")
	is(t, "(p-b n)", "get:p<b>[local:n]")
	is(t, "(p-b! n x)", "put:p<b>[local:n global:x]")
	is(t, "(q-c! (q 1) (q-c n))", "put:q<c>[make:q[const=1] get:q<c>[local:n]]")
	for _, s := range []string{"(p 1 2 3 4 5 6 7)", "(p?)", "(p? 1 2)", "(p-a)", "(p-a 1 2)", "(p-a!)", "(p-a! 1)", "(p-a! 1 2 3)", "(p? zz zz)", "(p-a! zz)", "(p 1 2 3 4 5 6 if)"} {
		isNot(t, s, api.ErrCount)
	}
	for _, s := range []string{"(p-)", "(p-c 1)", "(p-c! 1 2)", "(p?? 1)", "(p-a? 1)", "(p-a!! 1 2)", "(p! 1)", "(p-! 1)", "(pa 1)", "(pp)", "(a 1)", "(-a 1)", "(p--a 1)", "(q-a 1)", "(p-ab 1)", "(p? zz)", "(p-a zz)", "(p-c if)"} {
		isNot(t, s, api.ErrNone)
	}
	isNot(t, "(p-a! 1 if)", api.ErrForm)
	isNot(t, "(p if zz)", api.ErrForm)
}

// The first record, of those behind the unit, that a name is made of.
func TestP28WhichRecord(t *testing.T) {
	ask := func(s, want string, l ...api.Shape) {
		t.Helper()
		forms(t, "(define (g n) "+s+")", api.Env{Shapes: l}, "g is lambda<n>["+want+"]")
	}
	ask("(p-q-a n)", "get:p<q-a>[local:n]", shape("p", "q-a"), shape("p-q", "a"))
	ask("(p-q-a n)", "get:p-q<a>[local:n]", shape("p-q", "a"), shape("p", "q-a"))
	ask("(p-q-a n)", "get:p-q<a>[local:n]", shape("p", "q"), shape("p-q", "a"))
	ask("(p? n)", "is:p[local:n]", shape("p"), shape("p?"))
	ask("(p? n)", "make:p?[local:n]", shape("p?"), shape("p"))
	ask("(p-a n)", "make:p-a[local:n]", shape("p-a"), shape("p", "a"))
	ask("(p-a n)", "get:p<a>[local:n]", shape("p", "a"), shape("p-a"))
	ask("(p-a! n 1)", "put:p<a>[local:n const=1]", shape("p", "a"), shape("p-a!"))
	ask("(p-? n)", "get:p<?>[local:n]", shape("p", "?"), shape("p-"))
	ask("(p-? n)", "is:p-[local:n]", shape("p-"), shape("p", "?"))
	ask("(p-if n)", "get:p<if>[local:n]", shape("p", "if"))
	ask("(p-! n)", "get:p<!>[local:n]", shape("p", "!"))
	ask("(p--! n 1)", "put:p<->[local:n const=1]", shape("p", "-"))
	// which one it is hangs on the name alone
	refuses(t, "(define (g n) (p? n n))", api.Env{Shapes: []api.Shape{shape("p"), shape("p?", "a", "b")}}, 0, api.ErrCount)
	refuses(t, "(define (g n) (p-a! n))", api.Env{Shapes: []api.Shape{shape("p", "a"), shape("p-a!", "b")}}, 0, api.ErrCount)
	// of one record: a field is got ahead of one that is put
	for _, l := range [][]string{{"a", "a!"}, {"a!", "a"}} {
		ask("(p-a! n)", "get:p<a!>[local:n]", shape("p", l...))
		ask("(p-a!! n 1)", "put:p<a!>[local:n const=1]", shape("p", l...))
	}
	// a record of the unit takes the place of the one that the environment has
	v := api.Env{Shapes: []api.Shape{shape("p", "q-a"), shape("p-q", "a")}}
	forms(t, "(define (g n) (p-q-a n)) (record p z)", v, "record p<z>; g is lambda<n>[get:p-q<a>[local:n]]")
	forms(t, "(define (g n) (p-q-a n)) (record p-q a) (record p q-a)", v, "record p-q<a>; record p<q-a>; g is lambda<n>[get:p<q-a>[local:n]]")
	forms(t, "(define (g n) (p-q-a n)) (record p-q a) (record p q-a)", api.Env{}, "record p-q<a>; record p<q-a>; g is lambda<n>[get:p-q<a>[local:n]]")
}

// The longest names.
func TestP28LongNames(t *testing.T) {
	long := strings.Repeat("a", api.MaxName-1)
	v := api.Env{Shapes: []api.Shape{shape(long, "b"), shape(long + "?")}}
	forms(t, "(define (g n) ("+long+"? n))", v, "g is lambda<n>[is:"+long+"[local:n]]")
}
