package serve_test

import (
	"reflect"
	"slices"
	"strings"
	"testing"

	"graftery/api"
	"graftery/serve"
	"graftery/vm"
)

// shows: the text of a value, and a world that stays as it is.
func shows(t *testing.T, w api.World, x api.Word, want string) {
	t.Helper()
	n, got, e := serve.Show(w, x)
	if e != api.OK || got != want {
		t.Errorf("%v: %s, %v, want %s", x, got, e, want)
	}
	if !reflect.DeepEqual(n, vm.Copy(w)) {
		t.Errorf("%v: the world is another one: %v, want %v", x, n, w)
	}
}

// settles: the text of a value in a world that is settled for it.
func settles(t *testing.T, w api.World, x api.Word, want string) {
	t.Helper()
	n, got, e := serve.Show(w, x)
	if e != api.OK || got != want {
		t.Errorf("%v: %s, %v, want %s", x, got, e, want)
	}
	if settled, _, _ := vm.Settle(w, x); !reflect.DeepEqual(n, settled) || reflect.DeepEqual(n, vm.Copy(w)) {
		t.Errorf("%v: the world is %v, want %v", x, n, settled)
	}
}

// refusesToShow a value.
func refusesToShow(t *testing.T, w api.World, x api.Word, want api.Errno) {
	t.Helper()
	n, got, e := serve.Show(w, x)
	if e != want || got != "" || !reflect.DeepEqual(n, api.World{}) {
		t.Errorf("%v: %v, %s, %v, want %v", x, n, got, e, want)
	}
}

// placed: a world with these things on its heap, one behind the other.
func placed(w api.World, things ...[]api.Word) api.World {
	w.Heap = api.Heap{Words: slices.Concat(things...), Limit: api.MaxHeap}
	return w
}

// records: a world with the records p, with two fields, and q, with none.
func records(t *testing.T) api.World {
	return grown(t, api.MinHeap, "(record p a b) (record q)")
}

func TestP73Plain(t *testing.T) {
	w := records(t)
	for want, x := range map[string]api.Word{
		"0": number(0), "17": number(17), "-5": number(-5), "1099511627776": number(api.MaxInt), "-1099511627776": number(-api.MaxInt),
		"#t": {Kind: api.Bool, N: 1}, "#f": {Kind: api.Bool}, "()": null(),
		"a": {Kind: api.Sym, S: "a"}, "Is (any)\"": {Kind: api.Sym, S: "Is (any)\""}, strings.Repeat("x", api.MaxName): {Kind: api.Sym, S: strings.Repeat("x", api.MaxName)},
	} {
		shows(t, w, x, want)
	}
}

func TestP73Things(t *testing.T) {
	last(t, 500, "#fn", "(define (f) f)", "f")
	last(t, 500, "(#fn 1 . #fn)", "(define (f n) (cons f (cons n f)))", "f 1")
	last(t, 500, "#[p]", "(record p) (define (f) (p))", "f")
	last(t, 500, "#[p-q 1 (2 a) #[r #t] ()]", "(record p-q a b c d) (record r x) (define (f) (p-q 1 '(2 a) (r #t) '()))", "f")
	last(t, 500, "(#[p 1] #[p 2] . #[p 3])", "(record p a) (define (f) (cons (p 1) (cons (p 2) (p 3))))", "f")
	for _, c := range []struct{ data, want string }{
		{"1 2", "(1 . 2)"}, {"1 ()", "(1)"}, {"() ()", "(())"}, {"() 1", "(() . 1)"}, {"() #f", "(() . #f)"}, {"1 (2)", "(1 2)"}, {"(1) 2", "((1) . 2)"},
		{"(1) (2)", "((1) 2)"}, {"(1 (-2 ()) #t) (a (b) #f)", "((1 (-2 ()) #t) a (b) #f)"}, {"'x '(y z)", "((quote x) quote (y z))"},
	} {
		last(t, 500, c.want, "(define (f a b) (cons a b))", "f "+c.data)
	}
	w := placed(records(t), []api.Word{head(api.Box), ref(0)}, pair(ref(0), ref(0)), record(0, 0, ref(0), ref(2)), record(1, 0))
	shows(t, w, ref(0), "#box")
	shows(t, w, ref(2), "(#box . #box)")
	shows(t, w, ref(5), "#[p #box (#box . #box)]")
	shows(t, w, ref(10), "#[q]")
}

// in: something in so many lists.
func in(n int, s string) string { return strings.Repeat("(", n) + s + strings.Repeat(")", n) }

// A thing that is in MaxShow others is not shown; what is no thing is.
func TestP73Levels(t *testing.T) {
	for data, want := range map[string]string{
		in(9, "()"):                  in(9, "()"),
		in(9, "(1)"):                 in(9, "(1)"),
		in(10, "()"):                 in(10, "()"),
		in(10, "(1)"):                in(10, ".."),
		in(10, "(1) 2 a #f () (())"): in(10, ".. 2 a #f () .."),
		in(9, "3 ((3)) ()"):          in(9, "3 (..) ()"),
		in(11, "1"):                  in(10, ".."),
	} {
		last(t, 500, want, "(define (f n) n)", "f "+data)
	}
	deep := "(record p a) (define (f n x) (if (= n 0) x (f (- n 1) (cons x '()))))"
	for what, want := range map[string]string{
		"f": "#fn", "(p 1)": "#[p 1]", "(p '())": "#[p ()]", "(p (p 2))": "#[p ..]", "(p f)": "#[p ..]", "(p '(1))": "#[p ..]",
		"(cons 1 2)": "(1 . 2)", "(cons f '())": "(..)", "(cons 1 (cons 2 f))": "(1 2 . ..)",
	} {
		last(t, 500, in(9, want), deep+"(define (g n) (f n "+what+"))", "g 9")
		last(t, 500, in(10, ".."), deep+"(define (g n) (f n "+what+"))", "g 10")
	}
}

// A list is one thing, however long it is, and so is what is behind its dot;
// a record that has itself is shown as often as any other.
func TestP73LevelsOfOne(t *testing.T) {
	long := "(define (f n x) (if (= n 0) x (f (- n 1) (cons n x))))"
	last(t, 500, "(1 2 3 4 5 6 7 8 9 10 11 12 (1 2 3 4 5 6 7 8 9 10 11 12 (1)))", long+"(define (g) (f 12 (cons (f 12 '((1))) '())))", "g")
	last(t, 500, "(1 2 3 4 5 6 7 8 9 10 11 12 . #[p (1)])", "(record p a)"+long+"(define (g) (f 12 (p '(1))))", "g")
	last(t, 500, strings.Repeat("#[p ", 10)+".."+strings.Repeat(" 1]", 10), "(record p a b) (define x (p 0 1)) (define (f) (begin (p-a! x x) x))", "f")
	last(t, 500, strings.Repeat("(1 . #[p ", 5)+".."+strings.Repeat("])", 5), "(record p a) (define x (p 0)) (define (f) (begin (p-a! x (cons 1 x)) (p-a x)))", "f")
}

// Of a list that is too long the first MaxList are shown.
func TestP73Lists(t *testing.T) {
	ones := func(n int) string { return strings.TrimSuffix(strings.Repeat("1 ", n), " ") }
	long := "(define (f n x) (if (= n 0) x (f (- n 1) (cons 1 x))))"
	for n, want := range map[string]string{
		"49 ()": ones(49), "50 ()": ones(50), "51 ()": ones(50) + " ..", "52 ()": ones(50) + " ..", "90 ()": ones(50) + " ..",
		"49 2": ones(49) + " . 2", "50 2": ones(50) + " . 2", "51 2": ones(50) + " ..", "49 (3)": ones(49) + " 3", "50 (3)": ones(50) + " ..",
	} {
		last(t, 1000, "("+want+")", long, "f "+n)
	}
	last(t, 1000, "(("+ones(50)+") ("+ones(50)+" ..) . 2)", long+"(define (g) (cons (f 50 '()) (cons (f 51 '()) 2)))", "g")
	// Lists that never end.
	w := placed(records(t), pair(number(1), ref(0)), pair(number(1), ref(6)), pair(number(1), ref(3)))
	shows(t, w, ref(0), "("+ones(50)+" ..)")
	shows(t, w, ref(3), "("+ones(50)+" ..)")
}

// What was moved is where it was moved to; that alone is no reason to settle.
func TestP73Moved(t *testing.T) {
	w := placed(records(t), moved(5, 2), record(0, 0, ref(10), ref(13)), pair(ref(0), ref(13)), moved(16, 0), moved(19, 0), record(1, 0))
	want := "#[p (.. . ..) #[q]]"
	for range 4 {
		want = "#[p (" + want + " . #[q]) #[q]]"
	}
	shows(t, w, ref(0), want)
	shows(t, w, ref(5), want)
	for _, at := range []int{13, 16, 19} {
		shows(t, w, ref(at), "#[q]")
	}
}

// olds: a world with a record x of an old version, and y, one of the version
// that is now; f makes a list.
func olds(t *testing.T) api.World {
	t.Helper()
	return grown(t, 1000, "(record p a) (define x (p 1)) (define (f n x) (if (= n 0) x (f (- n 1) (cons 1 x)))) (define (g n) (lambda () (cons n x)))",
		"(record p b c) (upgrade p (cons (was a) 2) '(3)) (define y (p 5 6))")
}

// with: a world with a thing more, and a Ref to it.
func with(w api.World, l []api.Word) (api.World, api.Word) {
	at := len(w.Heap.Words)
	w.Heap.Words = slices.Concat(w.Heap.Words, l)
	return w, ref(at)
}

// inLists: a value in so many lists.
func inLists(w api.World, x api.Word, n int) (api.World, api.Word) {
	for range n {
		w, x = with(w, pair(x, null()))
	}
	return w, x
}

// behind: a value behind so many others in a list.
func behind(w api.World, x api.Word, n int) (api.World, api.Word) {
	w, x = with(w, pair(x, null()))
	for range n {
		w, x = with(w, pair(number(1), x))
	}
	return w, x
}

// An old record that is met is no more, and no other one is.
func TestP73Settled(t *testing.T) {
	w := olds(t)
	x, y := value(t, w, "x"), value(t, w, "y")
	now := "#[p (1 . 2) (3)]"
	settles(t, w, x, now)
	n, l := with(w, pair(y, x))
	settles(t, n, l, "(#[p 5 6] . "+now+")")
	n, l = with(w, record(0, 1, y, x))
	settles(t, n, l, "#[p #[p 5 6] "+now+"]")
	n, l = with(w, record(0, 0, x))
	settles(t, n, l, "#[p ("+now+" . 2) (3)]")
	n, l = behind(w, x, 49)
	settles(t, n, l, "("+strings.Repeat("1 ", 49)+now+")")
	n, l = inLists(w, x, 8)
	settles(t, n, l, in(8, now))
	n, l = inLists(w, x, 9)
	settles(t, n, l, in(9, "#[p .. ..]"))
	settled, _, e := serve.Show(w, x)
	if heads(settled, api.Moved) != 1 || e != api.OK {
		t.Errorf("%v, %v", settled.Heap, e)
	}
	shows(t, settled, value(t, settled, "x"), now)
}

// An old record that is not met stays so.
func TestP73NotMet(t *testing.T) {
	w := olds(t)
	x, y := value(t, w, "x"), value(t, w, "y")
	shows(t, w, y, "#[p 5 6]")
	shows(t, w, value(t, w, "f"), "#fn")
	n, l := with(w, []api.Word{head(api.Box), x})
	shows(t, n, l, "#box")
	n, l = behind(w, x, 50)
	shows(t, n, l, "("+strings.Repeat("1 ", 50)+"..)")
	n, l = inLists(w, x, 10)
	shows(t, n, l, in(10, ".."))
	// Nor is anything collected.
	shows(t, placed(records(t), record(1, 0), moved(6, 0), record(1, 0), pair(null(), null())), number(1), "1")
}

// What is refused while the world is settled is refused.
func TestP73NotSettled(t *testing.T) {
	w := grown(t, 100, "(record p a) (record q) (define x 1) (define y 1)", "(record p b) (upgrade p (car (was a))) (record q d) (upgrade q 4)")
	w = placed(w, record(0, 0, number(1)), record(1, 0), pair(ref(0), ref(4)))
	refusesToShow(t, w, ref(0), api.ErrKind)
	refusesToShow(t, w, ref(7), api.ErrKind)
	settles(t, w, ref(4), "#[q 4]") // the other one does not live
	w.Globs[0].Value = ref(0)
	refusesToShow(t, w, ref(4), api.ErrKind)
	shows(t, w, number(1), "1")
	full := grown(t, api.MinHeap, "(record p a) (define x (p 1))", "(record p a b) (upgrade p (was a) 0)", "(define y '(1 2 3 4 5 6 7 8 9 10 11 12 13 14 15))")
	refusesToShow(t, full, value(t, full, "x"), api.ErrRoom)
	shows(t, full, value(t, full, "y"), "(1 2 3 4 5 6 7 8 9 10 11 12 13 14 15)")
}

func TestP73Wrong(t *testing.T) {
	w := olds(t)
	for _, x := range []api.Word{{}, ref(-1), ref(1), ref(len(w.Heap.Words)), {Kind: api.Ref, S: "a"}, number(api.MaxInt + 1), number(-api.MaxInt - 1), {Kind: api.Bool, N: 2}, {Kind: api.Nil, N: 1}, {Kind: api.Sym}, head(api.Pair), {Kind: api.Int, S: "a"}, {Kind: 11}, {Kind: -1}} {
		refusesToShow(t, w, x, api.ErrKind)
		bad := vm.Copy(w)
		bad.Heap.Limit = 0
		refusesToShow(t, bad, x, api.ErrState)
	}
	for _, change := range []func(w *api.World){
		func(w *api.World) { w.Heap.Words = w.Heap.Words[1:] },
		func(w *api.World) { w.Globs[0].Name = "if" },
		func(w *api.World) { w.Recs[0].Moves = nil },
		func(w *api.World) { w.Funcs[0].Code = nil },
	} {
		bad := vm.Copy(w)
		change(&bad)
		refusesToShow(t, bad, number(1), api.ErrState)
	}
	refusesToShow(t, api.World{}, number(1), api.ErrState)
}
