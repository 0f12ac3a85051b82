package graft_test

import (
	"slices"
	"testing"

	"graftery/api"
	"graftery/vm"
)

func TestP63NewRecords(t *testing.T) {
	w := grow(t, empty(100), "(record q b a) (record p)", "(record o) (record p) (record a x)")
	want := []api.Rec{
		{Name: "q", Vers: []api.Shape{shape("q", "b", "a")}},
		{Name: "p", Vers: []api.Shape{shape("p")}},
		{Name: "o", Vers: []api.Shape{shape("o")}},
		{Name: "a", Vers: []api.Shape{shape("a", "x")}},
	}
	if !alike(w, api.World{Recs: want, Heap: api.Heap{Limit: 100}}) {
		t.Errorf("%v", w)
	}
}

func TestP63Upgraded(t *testing.T) {
	w := grow(t, empty(200), "(record p a) (record q a) (define x (p 1)) (define y (q 2))",
		"(record p a b) (upgrade p (+ (was a) 10) '(new))",
		"(record q c) (upgrade q (- 0 (was a))) (record p b) (upgrade p (cons (was a) (was b)))")
	if !alike(w.Recs[0].Vers, []api.Shape{shape("p", "a"), shape("p", "a", "b"), shape("p", "b")}) {
		t.Errorf("%v", w.Recs)
	}
	if !alike(w.Recs[1].Vers, []api.Shape{shape("q", "a"), shape("q", "c")}) {
		t.Errorf("%v", w.Recs)
	}
	tells(t, w, "x", "#[p2 (11 . (new . ()))]")
	tells(t, w, "(p-b x)", "(11 . (new . ()))")
	tells(t, w, "(q-c y)", "-2")
	tells(t, w, "(p 3)", "#[p2 3]")
}

// Without an upgrade a record stays as it is.
func TestP63TheSame(t *testing.T) {
	w := known(t)
	n := grafted(t, w, unitOf(shape("q"), shape("p", "a", "b")))
	if !alike(n, w) {
		t.Errorf("%v, and not %v", n, w)
	}
	for _, s := range []api.Shape{shape("p"), shape("p", "a"), shape("p", "b", "a"), shape("p", "a", "c"), shape("p", "a", "b", "c"), shape("p", "c"), shape("q", "a")} {
		refuses(t, w, unitOf(s), api.ErrNone)
		refuses(t, w, unitOf(shape("r"), s), api.ErrNone)
	}
	refuses(t, w, unitOf(shape("p", "c"), shape("q", "a"), upgrade("q", constant(1))), api.ErrNone)
}

// With an upgrade the same fields, too, are a version more.
func TestP63TheSameUpgraded(t *testing.T) {
	w := grow(t, known(t), "(record p a b) (upgrade p (was b) (was a))")
	if len(w.Recs[0].Vers) != 3 {
		t.Errorf("%v", w.Recs)
	}
	tells(t, w, "x", "#[p2 2 1]")
}

// versions: a world whose record p has so many.
func versions(t *testing.T, n int) api.World {
	t.Helper()
	w := grow(t, empty(200), "(record p a) (define x (p 0))")
	for range n - 1 {
		w = grow(t, w, "(record p a) (upgrade p (+ (was a) 1))")
	}
	return w
}

func TestP63MostVersions(t *testing.T) {
	w := versions(t, api.MaxVers)
	tells(t, w, "(p-a x)", "19")
	again := unitOf(shape("p", "a"), upgrade("p", was(0)))
	refuses(t, w, again, api.ErrSize)
	grow(t, w, "(record p a)")
	// one by one
	other := shape("q", "a")
	w = grow(t, w, "(record q b)")
	refuses(t, w, unitOf(shape("p", "a"), other, upgrade("p", was(0))), api.ErrSize)
	refuses(t, w, unitOf(other, shape("p", "a"), upgrade("p", was(0))), api.ErrNone)
	// ahead of what is tried
	refuses(t, w, unitOf(shape("p", "a"), upgrade("p", prim("car", was(0)))), api.ErrSize)
}

// shapes: records of these names.
func shapes(l []string) api.Unit {
	var u api.Unit
	for _, s := range l {
		u.Shapes = append(u.Shapes, shape(s))
	}
	return u
}

func TestP63MostRecords(t *testing.T) {
	w := grafted(t, empty(100), shapes(names("r", api.MaxRecs)))
	if len(w.Recs) != api.MaxRecs {
		t.Errorf("%v", w.Recs)
	}
	refuses(t, empty(100), shapes(names("r", api.MaxRecs+1)), api.ErrSize)
	refuses(t, empty(100), shapes(names("r", 20000)), api.ErrSize)
	refuses(t, w, shapes([]string{"r"}), api.ErrSize)
	refuses(t, w, shapes([]string{"r1", "r"}), api.ErrSize)
	grafted(t, w, shapes(names("r", api.MaxRecs)))
	grafted(t, w, unitOf(shape("r7", "a"), upgrade("r7", constant(1))))
	// It is told ahead of what is wrong with definitions.
	refuses(t, w, unitOf(shape("r"), def("y", global("z"))), api.ErrSize)
}

// Too long a function of an upgrade may be refused, behind what is wrong with a
// record ahead of it.
func TestP63TooLong(t *testing.T) {
	w := known(t)
	p := upgrade("p", tooLong())
	mayRefuse(t, w, unitOf(shape("p", "a"), p), api.ErrSize)
	refuses(t, w, unitOf(shape("q", "a"), shape("p", "a"), p), api.ErrNone)
}

// Functions stand in the order of the upgrades, whatever that of the records
// is, ahead of those of definitions.
func TestP64Places(t *testing.T) {
	w := grow(t, empty(200), "(record p a) (record q) (record r a b) (define (f n) (lambda (k) n)) (define x 1)")
	if len(w.Funcs) != 3 {
		t.Fatalf("%v", w.Funcs)
	}
	w = grow(t, w, "(define (g n m) m) (upgrade q 1 2) (record p b) (record r) (record q a b) (upgrade r) (upgrade p (was a)) (define (f) (lambda (n m) (lambda (k l) 1))) (define x 2) (define y (lambda () 1)) (define z ((lambda (n) n) 1))")
	moves := [][][]int{{{5}}, {{3, 4}}, {{}}}
	for i, r := range w.Recs {
		if !alike(r.Moves, moves[i]) {
			t.Errorf("%v, want %v", r, moves[i])
		}
	}
	var params []int
	for _, f := range w.Funcs {
		params = append(params, f.Params)
	}
	if !slices.Equal(params[3:], []int{0, 0, 1, 2, 0, 2, 2, 0, 0, 1}) {
		t.Errorf("%v", params)
	}
	for name, place := range map[string]int{"g": 6, "f": 7, "y": 10} {
		if head := w.Heap.Words[value(w, name).N]; head.Kind != api.Closure || head.N != place {
			t.Errorf("%s: %v", name, head)
		}
	}
	if e := vm.Check(w); e != api.OK {
		t.Error(e)
	}
}
