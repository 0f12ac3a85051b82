package graft_test

import (
	"slices"
	"testing"

	"graftery/api"
	"graftery/vm"
)

// What was tried is forgotten: a record that lives is as it was, until somebody
// looks at it.
func TestP65Forgotten(t *testing.T) {
	w := grow(t, empty(400), "(record p a) (define x (cons (p 1) (p 2)))", "(define x 2) (define gone (p 7))")
	w.Globs[1].Value = null()
	n := grow(t, w, "(record p a b) (upgrade p (was a) (cons 1 2))")
	if !alike(n.Heap, w.Heap) || !alike(n.Globs, w.Globs) {
		t.Errorf("%v, and not %v", n, w)
	}
	tells(t, n, "x", "(#[p1 1 (1 . 2)] . #[p1 2 (1 . 2)])")
}

func TestP65Refused(t *testing.T) {
	w := grow(t, empty(400), "(record p a) (record q a) (define x (cons (p 1) (cons (p '(2)) (cons (p #f) (q 1099511627776))))) (define (f) x)")
	for _, c := range []struct {
		source string
		want   api.Errno
	}{
		{"(record p b) (upgrade p (was a))", api.OK},
		{"(record p b) (upgrade p (car (was a)))", api.ErrKind},
		{"(record p b) (upgrade p (error (was a)))", api.ErrRaise},
		{"(record p b c) (upgrade p 1 (if (pair? (was a)) (error 1) 1))", api.ErrRaise},                                    // of one alone
		{"(record p b) (upgrade p (if (pair? (was a)) (error 1) (if (was a) 1 (car 1))))", api.ErrKind},                    // the least one, of several
		{"(record p b) (upgrade p (if (pair? (was a)) (car 1) (if (was a) 1 (error 1))))", api.ErrKind},                    // whatever their order is
		{"(record p b) (upgrade p (if (pair? (was a)) (car 1) (if (was a) (quotient 1 0) (error 1))))", api.ErrRange},      // ..
		{"(record p b) (upgrade p (if (pair? (was a)) (car 1) (if (was a) (error 1) (quotient 1 0))))", api.ErrRange},      // ..
		{"(record p b) (upgrade p (error 1)) (record q b) (upgrade q (+ (was a) 1))", api.ErrRange},                        // of several records
		{"(record q b) (upgrade q (+ (was a) 1)) (record p b) (upgrade p (car (was a)))", api.ErrRange},                    // ..
		{"(record q b) (upgrade q (error 1)) (record p b) (upgrade p (car (was a)))", api.ErrKind},                         // ..
		{"(record q b) (upgrade q (error 1)) (record p b) (upgrade p (was a))", api.ErrRaise},                              // ..
		{"(record p b c) (upgrade p (error (was a)) (quotient 1 0))", api.ErrRaise},                                        // of one record the first one
		{"(record p b) (upgrade p (car (was a))) (define (f) 1) (define y 1) (define z (error 1))", api.ErrKind},           // ahead of what is run
		{"(record p b) (upgrade p (if (pair? (was a)) (car (was a)) (was a))) (define y (error 1))", api.ErrRaise},         // which is run, too
		{"(record p b) (upgrade p 1) (record q b) (upgrade q (if (= (was a) 1) (car 1) 2)) (define y (+ 1 2))", api.OK},    // ..
		{"(record p b) (upgrade p 1) (define y (begin (set! x 5) x)) (record q b) (upgrade q (car (was a)))", api.ErrKind}, // what lives then
	} {
		refusesSource(t, w, c.source, c.want)
	}
}

// Only what lives is tried; all that does is, of whatever global.
func TestP65Living(t *testing.T) {
	w := grow(t, empty(400), "(record p a) (record q a) (define x (q (p 1))) (define y (let ((n (p 2))) (lambda () n))) (define z (p 3)) (define (f) 1)")
	bad := func(n string) string { return "(record p b) (upgrade p (if (= (was a) " + n + ") (error 1) 1))" }
	for name, n := range map[string]string{"x": "1", "y": "2", "z": "3"} {
		refusesSource(t, w, bad(n), api.ErrRaise)
		gone := vm.Copy(w)
		gone.Globs[slices.IndexFunc(w.Globs, func(g api.Glob) bool { return g.Name == name })].Value = null()
		refusesSource(t, gone, bad(n), api.OK)
	}
	// A record that is said anew, but not upgraded, is none that is brought up.
	refusesSource(t, w, "(record p a) (record q b) (upgrade q 1)", api.OK)
	// What lives only by a function, or a value, that is said anew lives until then.
	refusesSource(t, w, "(define (y) 1)"+bad("2"), api.ErrRaise)
}

// stale: a world with a record of the first version that can't be brought up.
func stale(t *testing.T) api.World {
	t.Helper()
	w := grow(t, empty(400), "(record p a) (record q a) (define x 1) (define y (q 1))", "(record p b) (upgrade p (car (was a)))")
	w, v, e := vm.Put(w, []api.Word{{Kind: api.Record}, number(0), number(1)}, []api.Word{number(3)})
	if e != api.OK {
		t.Fatal(e)
	}
	w.Globs[0].Value = v
	return w
}

// Without upgrades nothing is tried; with one all is, whatever it is of.
func TestP65OfWhatever(t *testing.T) {
	w := stale(t)
	refusesSource(t, w, "(define z x) (define (f) (p-b x)) (record p b) (record r)", api.OK)
	refusesSource(t, w, "(define z (p-b x))", api.ErrKind)
	refusesSource(t, w, "(record q b) (upgrade q 1)", api.ErrKind)
	refusesSource(t, w, "(record q b) (upgrade q (quotient 1 0))", api.ErrRange)
	refusesSource(t, w, "(record q b) (upgrade q (error 1))", api.ErrKind)
	refusesSource(t, w, "(record p c) (upgrade p 1)", api.ErrKind)
}

// A record goes through all versions that it has not.
func TestP65Steps(t *testing.T) {
	w := grow(t, empty(400), "(record p a) (define x (p 1))", "(record p b) (upgrade p (+ (was a) 1))", "(record p c d) (upgrade p (cons (was b) 5) (was b))", "(define y (p 8 9))")
	refusesSource(t, w, "(record p e) (upgrade p (if (pair? (was c)) (+ (car (was c)) (+ (cdr (was c)) (was d))) 0))", api.OK)
	refusesSource(t, w, "(record p e) (upgrade p (car (was c)))", api.ErrKind) // of y
	refusesSource(t, w, "(record p e) (upgrade p (if (pair? (was c)) (error 1) 1))", api.ErrRaise)
	n := grow(t, w, "(record p e) (upgrade p (if (pair? (was c)) (+ (car (was c)) (+ (cdr (was c)) (was d))) (was d)))")
	tells(t, n, "(cons x y)", "(#[p3 9] . #[p3 9])")
}

// filled: a world of 50 words, with records of one field that live: each of
// them, and the pair that has it, takes seven words. The others are gone.
func filled(t *testing.T, live int, value string) api.World {
	t.Helper()
	w := grow(t, empty(api.MinHeap), "(record p a) (define x '())")
	for range live {
		w = grow(t, w, "(define y (set! x (cons (p "+value+") x)))")
		w.Globs = w.Globs[:1]
	}
	return w
}

// Each one is tried for itself: there must be room for one alone.
func TestP65Room(t *testing.T) {
	one := "(record p b) (upgrade p (was a))"                     // takes four words
	two := "(record p b) (upgrade p (cons 1 (was a)))"            // seven
	three := "(record p b c) (upgrade p (cons 1 2) (cons 3 4))"   // eleven
	gone := "(record p b) (upgrade p (car (cdr '(1 2 3 4 5 6))))" // of its pairs no more than six at once, and then four
	bad := "(record p b) (upgrade p (if (pair? (was a)) (car 1) (cons 1 (cons 2 (cons 3 (was a))))))"
	for _, c := range []struct {
		source string
		takes  int // words that must be free
	}{{one, 4}, {two, 7}, {three, 11}, {gone, 18}} {
		for live := 1; live <= 7; live++ {
			want := api.OK
			if c.takes > api.MinHeap-7*live {
				want = api.ErrRoom
			}
			refusesSource(t, filled(t, live, "1"), c.source, want)
		}
	}
	// ErrRoom is told ahead of all else, whatever their order is.
	refusesSource(t, filled(t, 6, "1"), bad, api.ErrRoom)
	refusesSource(t, filled(t, 5, "1"), bad, api.OK)
	mixed := grow(t, filled(t, 5, "'()"), "(define y (set! x (cons (p #t) x)))")
	refusesSource(t, mixed, "(record p b) (upgrade p (if (null? (was a)) (cons 1 (cons 2 (cons 3 4))) (car 1)))", api.ErrRoom)
	refusesSource(t, mixed, "(record p b) (upgrade p (if (null? (was a)) (car 1) (cons 1 (cons 2 (cons 3 4)))))", api.ErrRoom)
	refusesSource(t, mixed, "(record p b) (upgrade p (if (null? (was a)) (car 1) (cons 1 2)))", api.ErrKind)
}

// What one took is there again for the next one; what is collected on the way,
// too.
func TestP65EachForItself(t *testing.T) {
	w := filled(t, 6, "1") // eight words are free
	n := grow(t, w, "(record p b) (upgrade p (cons 1 (was a)))")
	if !alike(n.Heap, w.Heap) {
		t.Errorf("%v", n.Heap)
	}
	if _, _, e := vm.Settle(n, null()); e != api.ErrRoom {
		t.Errorf("all of them together: %v", e)
	}
	// Two steps take eleven words, but the first one's record is gone by then.
	m := grow(t, w, "(record p b c) (upgrade p (was a) 1)")
	refusesSource(t, m, "(record p b) (upgrade p (was c))", api.OK)
	// One version smaller, so that the next ones would have more room behind it.
	big := grow(t, empty(api.MinHeap), "(record p a b c d e f) (define x (cons (p 1 2 3 4 5 6) (cons (p 1 2 3 4 5 7) (p 1 2 3 4 5 8))))")
	refusesSource(t, big, "(record p a) (upgrade p (if (= (was f) 6) 1 (cons 1 (cons 2 (cons 3 (cons 4 5))))))", api.OK)
	refusesSource(t, big, "(record p a) (upgrade p (if (= (was f) 6) 1 (cons 1 (cons 2 (cons 3 (cons 4 (cons 5 6)))))))", api.ErrRoom)
}

// The heap is collected ahead of it: what does not live takes no room.
func TestP65Collected(t *testing.T) {
	w := filled(t, 3, "1")
	for len(w.Heap.Words)+3 <= w.Heap.Limit {
		w.Heap.Words = append(w.Heap.Words, api.Word{Kind: api.Pair}, null(), null())
	}
	n := grow(t, w, "(record p b c) (upgrade p (cons 1 2) (cons 3 4))")
	if !alike(n.Heap, w.Heap) {
		t.Errorf("%v", n.Heap)
	}
}

// A heap full of records is tried in good time.
func TestP65Many(t *testing.T) {
	w := grow(t, empty(api.MaxHeap), "(record p a) (define x '())")
	last := null()
	for range 3000 {
		at := len(w.Heap.Words)
		w.Heap.Words = append(w.Heap.Words, api.Word{Kind: api.Record}, number(0), number(1), last)
		last = ref(at)
	}
	w.Globs[0].Value = last
	n := w
	for range 3 {
		n = grow(t, n, "(record p a) (upgrade p (was a))")
	}
	if !alike(n.Heap, w.Heap) {
		t.Error("the heap is not as it was")
	}
}
