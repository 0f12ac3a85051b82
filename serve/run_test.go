package serve_test

import (
	"reflect"
	"slices"
	"strings"
	"testing"

	"graftery/api"
	"graftery/heap"
	"graftery/serve"
)

// refusesToRun a script.
func refusesToRun(t *testing.T, limit int, l []api.Act, want api.Errno) {
	t.Helper()
	answers, w, e := serve.Run(limit, l)
	if e != want || len(answers) > 0 || !reflect.DeepEqual(w, api.World{}) {
		t.Errorf("%d, %d acts: %v, %v, %v, want %v", limit, len(l), answers, w, e, want)
	}
}

func TestP71Whole(t *testing.T) {
	w := tells(t, 200, acts(t,
		"(record p a) (define x (p 1)) (define (f n) (+ n (p-a x)))", "f 4",
		"(record p a b) (upgrade p (+ (was a) 10) '(new)) (define (g n) x)", "f 4", "g 0",
		"(record p a) (upgrade p (car (was a)))", "f 4", "g 0",
	), "", "5", "", "15", "#[p 11 (new)]", refused(api.ErrKind), "15", "#[p 11 (new)]")
	if len(w.Globs) != 3 || len(w.Recs) != 1 || len(w.Recs[0].Vers) != 2 {
		t.Errorf("%v", w)
	}
}

func TestP71Limits(t *testing.T) {
	some := []api.Act{source("(define x 1)")}
	for limit, want := range map[int]api.Errno{api.MinHeap: api.OK, api.MaxHeap: api.OK, api.MinHeap - 1: api.ErrRange, api.MaxHeap + 1: api.ErrRange, 0: api.ErrRange, -1: api.ErrRange, -1 << 63: api.ErrRange, 1<<63 - 1: api.ErrRange} {
		if want == api.OK {
			tells(t, limit, some, "")
			continue
		}
		refusesToRun(t, limit, some, want)
		refusesToRun(t, limit, nil, want)
		refusesToRun(t, limit, slices.Repeat(some, api.MaxActs+1), api.ErrRange) // ahead of ErrSize
	}
	tells(t, 50, slices.Repeat(some, api.MaxActs), slices.Repeat([]string{""}, api.MaxActs)...)
	refusesToRun(t, 50, slices.Repeat(some, api.MaxActs+1), api.ErrSize)
	refusesToRun(t, 50, make([]api.Act, api.MaxActs+1), api.ErrSize)
}

// At the beginning there is nothing.
func TestP71Beginning(t *testing.T) {
	for _, l := range [][]api.Act{nil, {}, {collect()}, {source("")}, {source(" ; nothing")}, {source("(")}, {ask("x", 1)}, {{}}} {
		_, w := runs(t, 77, l)
		if len(w.Funcs)+len(w.Globs)+len(w.Recs)+len(w.Heap.Words) > 0 || w.Heap.Limit != 77 {
			t.Errorf("%v: %v", l, w)
		}
	}
	tells(t, 50, nil)
	tells(t, 50, acts(t, "x", "collect", "(define x y)"), refused(api.ErrNone), "", refused(api.ErrNone))
}

func TestP71Kinds(t *testing.T) {
	for _, kind := range []int{0, -1, 4, 1 << 62} {
		a := ask("f", 10)
		a.Kind, a.Source = kind, "(define (f) 2)"
		tells(t, 50, []api.Act{source("(define (f) 1)"), a, ask("f", 10)}, "", refused(api.ErrKind), "1")
	}
	// What an act of a kind has not is not looked at.
	all := func(kind int) api.Act {
		return api.Act{Kind: kind, Source: "(define (f) 3)", Name: "f", Fuel: 10}
	}
	odd := api.Act{Kind: api.Collect, Source: "(", Name: "?", Data: []api.Datum{{}}, Fuel: -1}
	update := odd
	update.Kind, update.Source = api.Update, "(define (f) 4)"
	tells(t, 50, []api.Act{all(api.Request), all(api.Update), all(api.Request), all(api.Collect), all(api.Request), odd, update, ask("f", 10)}, refused(api.ErrNone), "", "3", "", "3", "", "", "4")
}

// What is refused on the way is refused: by read, by unit, by graft.
func TestP71RefusedUpdates(t *testing.T) {
	ahead := []string{"(record p a) (define x (p 1)) (define (f) x) (define y '())", "(record p a b) (upgrade p (was a) (cons 1 2)) (record q)"}
	shown := "#[p 1 (1 . 2)]"
	for s, want := range map[string]api.Errno{
		strings.Repeat(" ", api.MaxSource+1): api.ErrSize,
		strings.Repeat("(", api.MaxSource+1): api.ErrSize,
		"(define z 1":                        api.ErrShort,
		"(define z (":                        api.ErrShort,
		")":                                  api.ErrForm,
		"(define z #x)":                      api.ErrForm,
		"(define z 1099511627777)":           api.ErrRange,
		in(api.MaxNest+1, ""):                api.ErrDeep,
		"x":                                  api.ErrForm,
		"(define if 1)":                      api.ErrForm,
		"(define z w)":                       api.ErrNone,
		"(define z 1) (define z 2)":          api.ErrTwice,
		"(define (z n) (car n n))":           api.ErrCount,
		"(record p c) (upgrade p x)":         api.ErrPure,
		"(record p a)":                       api.ErrNone,
		"(record p a b) (upgrade p 1 (car (was a)))":         api.ErrKind,
		"(record p a b) (upgrade p 1 (quotient 1 0))":        api.ErrRange,
		"(record p a b) (upgrade p 1 (error 1))":             api.ErrRaise,
		"(define z (error 1))":                               api.ErrRaise,
		"(define z (p-a 1))":                                 api.ErrKind,
		"(define z (p 1))":                                   api.ErrCount,
		"(define (z) (z)) (define w (z))":                    api.ErrFuel,
		"(define (z) (cons 1 (z))) (define w (z))":           api.ErrDeep,
		"(define z (set! y 1)) (record p c) (upgrade p 1)(":  api.ErrShort,
		"(define z (begin (set! y 1) (set! x 2) (error 1)))": api.ErrRaise,
		"(define z w) (record p a)":                          api.ErrNone,
		"(define (f) 7) (define z (error 1))":                api.ErrRaise,
		"(record r) (define r 1) (define z (r))":             api.ErrKind,
	} {
		more := append(slices.Clone(ahead), "(define z 5) (define (g) (cons z y))")
		a := slices.Insert(acts(t, append(more, "f", "g")...), 2, source(s))
		tells(t, 300, a, "", "", refused(want), "", shown, "(5)")
		_, one := runs(t, 300, acts(t, ahead...))
		_, two := runs(t, 300, append(acts(t, ahead...), source(s)))
		if !reflect.DeepEqual(one, two) {
			t.Errorf("%s: %v, want %v", s, two, one)
		}
	}
	room := "(define (l n x) (if (= n 0) x (l (- n 1) (cons n x)))) (define z (l 100 '()))"
	tells(t, 300, acts(t, append(ahead, room, "f")...), "", "", refused(api.ErrRoom), shown)
	tells(t, 400, acts(t, append(ahead, room, "f")...), "", "", "", shown)
}

// Of several errors the first one on the way is told.
func TestP71FirstError(t *testing.T) {
	for source, want := range map[string]api.Errno{
		"(define x y) (":                                              api.ErrShort, // read's ahead of unit's
		"(record p b) (define x y)":                                   api.ErrNone,
		"(record p b) (define x 1) (define x)":                        api.ErrForm, // unit's ahead of graft's
		"(record p b) (define x (error 1))":                           api.ErrNone, // graft's in their order
		"(record p b) (upgrade p (car (was a))) (define x (error 1))": api.ErrKind,
	} {
		last(t, 300, refused(want), "(record p a) (define old (p 1))", source)
	}
}

// A request that is refused changes nothing, whatever it did.
func TestP71RefusedRequests(t *testing.T) {
	ahead := "(record p a) (define x (p 1)) (define y 2) (define (f n) (begin (set! y 3) (p-a! x n) (set! x (cons x y)) (car n))) (define (g) (cons x y))"
	for data, want := range map[string]string{"5": refused(api.ErrKind), "'(5 6)": "quote"} {
		l := acts(t, ahead, "f "+data, "g")
		after := "(#[p 1] . 2)"
		if want == "quote" {
			after = "((#[p (quote (5 6))] . 3) . 3)"
		}
		tells(t, 300, l, "", want, after)
	}
	_, one := runs(t, 300, acts(t, ahead))
	_, two := runs(t, 300, acts(t, ahead, "f 5", "f", "g 1", "h"))
	if !reflect.DeepEqual(one, two) {
		t.Errorf("%v, want %v", two, one)
	}
}

// What is collected is what globals reach, in the order in which it is reached.
func TestP71Collect(t *testing.T) {
	ahead := []string{
		"(record p a b) (define x (p 1 '(2))) (define y '(a b)) (define z 5) (define (f n) (begin (set! y (cons x n)) (p-b! x 7) '(1 2 3)))",
		"f 4", "(record p b) (upgrade p (was b))", "f (8)",
	}
	_, w := runs(t, 500, acts(t, ahead...))
	var roots []api.Word
	for _, g := range w.Globs {
		roots = append(roots, g.Value)
	}
	h, roots, _ := heap.Collect(w.Heap, roots)
	_, n := runs(t, 500, acts(t, append(ahead, "collect")...))
	if !reflect.DeepEqual(n.Heap, h) || len(h.Words) >= len(w.Heap.Words) {
		t.Errorf("%v, want %v", n.Heap, h)
	}
	for i, g := range n.Globs {
		if g.Value != roots[i] || g.Name != w.Globs[i].Name {
			t.Errorf("%v, want %v", g, roots[i])
		}
	}
	if !reflect.DeepEqual(n.Funcs, w.Funcs) || !reflect.DeepEqual(n.Recs, w.Recs) {
		t.Errorf("%v, want %v", n, w)
	}
	_, twice := runs(t, 500, acts(t, append(ahead, "collect", "collect")...))
	if !reflect.DeepEqual(twice, n) {
		t.Errorf("%v, want %v", twice, n)
	}
}

// The world behind it all: records are brought up when somebody looks at them.
func TestP71World(t *testing.T) {
	l := []string{"(record p a) (define x (p 1)) (define y (p 2)) (define (f) (p-a x)) (define (g) x) (define (h) y)", "(record p b a) (upgrade p 5 (was a))"}
	for more, want := range map[string][2]int{"": {0, 2}, "f": {1, 3}, "g": {2, 4}, "h": {2, 4}} {
		_, w := runs(t, 500, acts(t, append(slices.Clone(l), strings.Fields(more)...)...))
		if got := [2]int{heads(w, api.Moved), heads(w, api.Record) + heads(w, api.Moved)}; got != want {
			t.Errorf("%s: %v, want %v: %v", more, got, want, w.Heap)
		}
	}
}
