package serve_test

import (
	"slices"
	"strconv"
	"strings"
	"testing"

	"graftery/api"
)

func TestP72Requests(t *testing.T) {
	for _, c := range []struct{ define, request, want string }{
		{"(define (f) 7)", "f", "7"},
		{"(define (f n) n)", "f -3", "-3"},
		{"(define (f n) n)", "f #t", "#t"},
		{"(define (f n) n)", "f sym", "sym"},
		{"(define (f n) n)", "f if", "if"}, // a datum may be any name
		{"(define (f n) n)", "f f", "f"},
		{"(define (f n) n)", "f ()", "()"},
		{"(define (f n) n)", "f (1 (a #f) ())", "(1 (a #f) ())"},
		{"(define (f n) (car (cdr n)))", "f (+ (f 1) 2)", "(f 1)"}, // it is not evaluated
		{"(define (f a b c d e g) (cons g (cons e (cons d (cons c (cons b a))))))", "f 1 2 3 4 5 6", "(6 5 4 3 2 . 1)"},
		{"(define f (lambda (n) (+ n 1)))", "f 1", "2"},
		{"(define f (let ((k 5)) (lambda (n) (set! k (+ k n)))))", "f 1", "()"},
		{"(define (f) f)", "f", "#fn"},
		{"(record p a) (define (f n) (p n))", "f (1)", "#[p (1)]"},
		{"(define x 1) (define (f n) (begin (set! x n) x))", "f 2", "2"},
	} {
		last(t, 200, c.want, c.define, c.request)
	}
}

// What a request changes is so for those behind it.
func TestP72Changes(t *testing.T) {
	tells(t, 200, acts(t, "(record p a) (define x (p 1)) (define y 5) (define k (let ((n 0)) (lambda () (begin (set! n (+ n 1)) n))))"+
		"(define (put n) (p-a! x n)) (define (set n) (set! y n)) (define (all) (cons x y))", "all", "put (2)", "all", "set all", "all", "k", "k", "collect", "k", "all"),
		"", "(#[p 1] . 5)", "(2)", "(#[p (2)] . 5)", "()", "(#[p (2)] . all)", "1", "2", "", "3", "(#[p (2)] . all)")
}

// refusesAsks of f, which has one param, of no global, and of one that is no
// function.
func refusesAsks(t *testing.T, want api.Errno, l ...api.Act) {
	t.Helper()
	for _, a := range l {
		tells(t, 200, []api.Act{source("(define (f n) n) (define x 1)"), a, ask("f", 4, num(1))}, "", refused(want), "1")
	}
}

func TestP72Wrong(t *testing.T) {
	bad := api.Datum{Kind: 9}
	refusesAsks(t, api.ErrNone, ask("g", 100, num(1)), ask("", 100), ask("if", 100), ask("car", 100, list(num(1))), ask("f ", 100, num(1)), ask("p", 100))
	refusesAsks(t, api.ErrCount, ask("f", 100, slices.Repeat([]api.Datum{num(1)}, api.MaxArgs+1)...))
	refusesAsks(t, api.ErrKind, ask("f", 100, bad), ask("f", 100, api.Datum{}), ask("f", 100, list(num(1), api.Datum{Kind: -1})))
	refusesAsks(t, api.ErrDeep, ask("f", 100, nested(api.MaxNest)), ask("f", 100, nested(api.MaxNest+1)))
	refusesAsks(t, api.ErrRange, ask("f", 100, num(api.MaxInt+1)), ask("f", 100, list(api.Datum{Kind: api.DBool, N: 2})))
	refusesAsks(t, api.ErrForm, ask("f", 100, sym("A")), ask("f", 100, sym("")), ask("f", 100, sym(strings.Repeat("x", 17))), ask("f", 100, api.Datum{Kind: api.DInt, S: "a"}))
	refusesAsks(t, api.ErrRange, ask("f", -1, num(1)), ask("f", api.MaxFuel+1, num(1)), ask("f", -1<<63, num(1)), ask("f", 1<<63-1, num(1)))
	refusesAsks(t, api.ErrKind, ask("x", 100), ask("x", 100, num(1)))
	refusesAsks(t, api.ErrCount, ask("f", 100), ask("f", 100, num(1), num(2)))
	refusesAsks(t, api.ErrFuel, ask("f", 0, num(1)), ask("f", 3, num(1)))
}

// The last that may be.
func TestP72Edges(t *testing.T) {
	six := "(define (f a b c d e g) g)"
	last(t, 200, "6", six, "f 1 2 3 4 5 6")
	last(t, 200, refused(api.ErrCount), six, "f 1 2 3 4 5 6 7")
	deepest := source("(define (f n) 1)")
	tells(t, 200, []api.Act{deepest, ask("f", 100, nested(api.MaxNest-1)), ask("f", 100, sym(strings.Repeat("x", api.MaxName)), num(1))}, "", "1", refused(api.ErrCount))
	tells(t, 200, []api.Act{source("(define (f n) n)"), ask("f", api.MaxFuel, num(api.MaxInt)), ask("f", 100, num(-api.MaxInt))}, "", "1099511627776", "-1099511627776")
}

// At most MaxItems data, those in others, too, and those of all of them.
func TestP72Items(t *testing.T) {
	for _, l := range [][]api.Datum{{nums(399)}, {num(1), nums(398)}, {nums(199), nums(199)}, {list(nums(199), list(list(nums(195)))), list()}, {num(1), num(2), num(3), num(4), nums(394), num(6)}} {
		names := strings.Join([]string{"a", "b", "c", "d", "e", "g"}[:len(l)], " ")
		define := source("(define (f " + names + ") 1)")
		i := len(l) / 2
		more := slices.Clone(l)
		more[i] = list(l[i], num(1))
		if l[i].Kind == api.DList {
			more[i] = list(append(l[i].Items, num(1))...)
		}
		tells(t, 2000, []api.Act{define, ask("f", 100, l...), ask("f", 100, more...)}, "", "1", refused(api.ErrSize))
	}
	tells(t, 2000, []api.Act{source("(define (f n) 1)"), ask("f", 100, nums(400)), ask("f", 100, nums(5000))}, "", refused(api.ErrSize), refused(api.ErrSize))
}

// Where several are wrong the first one is told.
func TestP72FirstError(t *testing.T) {
	bad, odd := api.Datum{Kind: 9}, sym("A")
	seven := append(slices.Repeat([]api.Datum{num(1)}, 6), bad)
	for _, c := range []struct {
		want api.Errno
		act  api.Act
	}{
		{api.ErrNone, ask("g", -1, seven...)},
		{api.ErrNone, ask("g", -1, nums(400))},
		{api.ErrCount, ask("f", -1, seven...)},
		{api.ErrCount, ask("f", -1, slices.Repeat([]api.Datum{nums(100)}, 7)...)},
		{api.ErrKind, ask("f", -1, bad, odd)},
		{api.ErrForm, ask("f", -1, odd, bad)},
		{api.ErrForm, ask("f", -1, odd, nums(400))},
		{api.ErrSize, ask("f", -1, nums(400), odd)}, // one by one: this one is ahead
		{api.ErrSize, ask("f", -1, nums(300), nums(99), odd)},
		{api.ErrForm, ask("f", -1, nums(300), nums(98), odd)},
		{api.ErrRange, ask("f", -1)},
		{api.ErrRange, ask("x", -1)},
		{api.ErrKind, ask("x", 100, num(1))},
	} {
		refusesAsks(t, c.want, c.act)
	}
}

// Each expression costs: the call, what is called, each of the data, and what
// the function does.
func TestP72Fuel(t *testing.T) {
	for _, c := range []struct {
		define, name string
		data         []api.Datum
		fuel         int
	}{
		{"(define (f) 1)", "f", nil, 3},
		{"(define (f n) n)", "f", []api.Datum{nums(20)}, 4},
		{"(define (f n m) (+ n m))", "f", []api.Datum{num(1), num(2)}, 7},
		{"(define (f n) (if (= n 0) 0 (f (- n 1))))", "f", []api.Datum{num(0)}, 8},
		{"(define (f n) (if (= n 0) 0 (f (- n 1))))", "f", []api.Datum{num(1)}, 17},
		{"(record p a) (define x (p 1)) (define (f) (begin (p-a x) 2))", "f", nil, 6},
	} {
		for fuel := range c.fuel {
			tells(t, 200, []api.Act{source(c.define), ask(c.name, fuel, c.data...)}, "", refused(api.ErrFuel))
		}
		answers, _ := runs(t, 200, []api.Act{source(c.define), ask(c.name, c.fuel, c.data...)})
		if answers[1].Code != api.OK {
			t.Errorf("%s: %v", c.define, answers)
		}
	}
	// To bring a record up costs nothing, nor does it to show one.
	tells(t, 200, []api.Act{
		source("(record p a) (define x (p 1)) (define (f) (begin (p-a x) 2)) (define (g) x)"),
		source("(record p a) (upgrade p (+ (was a) (+ 1 (if #t 2 3))))"), ask("f", 5), ask("f", 6), ask("g", 2), ask("g", 3),
	}, "", "", refused(api.ErrFuel), "2", refused(api.ErrFuel), "#[p 4]")
}

// What is called stands in the place of the request's own call.
func TestP72Calls(t *testing.T) {
	l := "(define (f n) (if (= n 0) 0 (+ 1 (f (- n 1)))))"
	last(t, 2000, "99", l, "f 99")
	last(t, 2000, refused(api.ErrDeep), l, "f 100")
	last(t, 200, "0", "(define (f n) (if (= n 0) 0 (f (- n 1))))", "f 2000")
}

func TestP72Refused(t *testing.T) {
	for body, want := range map[string]api.Errno{
		"(car n)": api.ErrKind, "(quotient n 0)": api.ErrRange, "(* n 1099511627776)": api.ErrRange, "(error n)": api.ErrRaise, "(n)": api.ErrKind,
		"(f n n)": api.ErrCount, "(f n)": api.ErrFuel, "(cons (f n) n)": api.ErrDeep, "(q-a x)": api.ErrKind, "(p)": api.ErrCount,
	} {
		last(t, 500, refused(want), "(record p a) (record q a) (define x (p 1)) (define (f n) "+body+")", "f 2")
	}
	last(t, 500, refused(api.ErrField), "(record p a b) (define x (p 1 2)) (define (f) (p-b x))", "(record p a) (upgrade p (was a))", "f")
	long := "(define (l n x) (if (= n 0) x (l (- n 1) (cons n x)))) (define (f n) (l n '()))"
	for n, want := range map[int]string{24: "(1 2 3 4 5 6 7 8 9 10 11 12 13 14 15 16 17 18 19 20 21 22 23 24)", 30: refused(api.ErrRoom)} {
		last(t, 80, want, long, "f "+strconv.Itoa(n))
	}
}

// What is refused while its value is shown is refused, and changes nothing.
func TestP72NotShown(t *testing.T) {
	tells(t, 60, acts(t, "(record p a) (define x (p 1)) (define n 0) (define (f) (begin (set! n 1) x)) (define (g) n)", "(record p a b) (upgrade p (was a) 0)",
		"(define y '(1 2 3 4 5 6 7 8 9 10 11 12 13 14 15 16))", "f", "g"), "", "", "", refused(api.ErrRoom), "0")
	tells(t, 64, acts(t, "(record p a) (define x (p 1)) (define n 0) (define (f) (begin (set! n 1) x)) (define (g) n)", "(record p a b) (upgrade p (was a) 0)",
		"(define y '(1 2 3 4 5 6 7 8 9 10 11 12 13 14 15 16))", "f", "g"), "", "", "", "#[p 1 0]", "1")
}
