package vm_test

import (
	"testing"

	"graftery/api"
)

// things: a world with one thing of each kind.
func things() api.World {
	w := world(globals(null(), null()), []api.Rec{rec("p", "a")}, function(0, constant(null())))
	return on(w, heapOf(60,
		pair(num(1), sym("b")), // 0
		pair(ref(0), null()),   // 3
		box(ref(0)),            // 6
		closure(0),             // 8
		record(0, 0, ref(0)),   // 10
		moved(10, null()),      // 14
	))
}

// applied: a primitive of one or two values.
func applied(w api.World, s string, l ...api.Word) outcome {
	w.Globs = globals(l[0], l[len(l)-1])
	if len(l) == 1 {
		return runs(w, constant(num(9)), global("x"), prim(s))
	}
	return runs(w, constant(num(9)), global("x"), global("y"), prim(s))
}

// gives: so, and what it tells; nothing else changes.
func gives(t *testing.T, want api.Word, s string, l ...api.Word) {
	t.Helper()
	w := things()
	tells(t, w, applied(w, s, l...), want, globals(l[0], l[len(l)-1]), w.Heap)
}

func TestP49Numbers(t *testing.T) {
	most := api.MaxInt
	for _, c := range []struct {
		s    string
		a, b int
		want int
	}{
		{"+", 2, 3, 5}, {"+", -2, 1, -1}, {"+", most, 0, most}, {"+", most - 1, 1, most}, {"+", -most, most, 0}, {"+", 1 - most, -1, -most},
		{"-", 2, 3, -1}, {"-", 3, -2, 5}, {"-", -most, 0, -most}, {"-", most, most, 0}, {"-", 0, most, -most},
		{"*", 2, 3, 6}, {"*", -2, 3, -6}, {"*", -2, -3, 6}, {"*", 0, most, 0}, {"*", most, 0, 0}, {"*", -most, 0, 0}, {"*", most, 1, most}, {"*", -1, most, -most}, {"*", 1, -most, -most}, {"*", -most, -1, most}, {"*", 1 << 20, 1 << 20, most}, {"*", 1 << 20, -(1 << 20), -most}, {"*", 1<<20 + 1, 1<<20 - 1, most - 1},
		{"quotient", 7, 2, 3}, {"quotient", -7, 2, -3}, {"quotient", 7, -2, -3}, {"quotient", -7, -2, 3}, {"quotient", 1, 2, 0}, {"quotient", most, -1, -most}, {"quotient", -most, -1, most}, {"quotient", 0, 5, 0},
		{"remainder", 7, 2, 1}, {"remainder", -7, 2, -1}, {"remainder", 7, -2, 1}, {"remainder", -7, -2, -1}, {"remainder", 6, 3, 0}, {"remainder", -most, -1, 0}, {"remainder", 3, most, 3},
	} {
		gives(t, num(c.want), c.s, num(c.a), num(c.b))
	}
	for _, c := range []struct {
		s    string
		a, b int
	}{
		{"+", most, 1}, {"+", most, most}, {"+", -most, -1}, {"+", -1, -most}, {"-", -most, 1}, {"-", most, -1}, {"-", -most, most}, {"-", most, -most},
		{"*", most, 2}, {"*", -2, most}, {"*", most, most}, {"*", -most, -most}, {"*", most, -most}, {"*", 1<<20 + 1, 1 << 20}, {"*", -(1 << 20), 1<<20 + 1}, {"*", 1 << 32, 1 << 32}, {"*", 1 << 31, 1 << 33}, {"*", 3, most / 2},
		{"quotient", 1, 0}, {"quotient", 0, 0}, {"quotient", -most, 0}, {"remainder", 1, 0}, {"remainder", 0, 0},
	} {
		refuses(t, applied(things(), c.s, num(c.a), num(c.b)), api.ErrRange)
	}
}

func TestP49Compared(t *testing.T) {
	most := api.MaxInt
	for _, c := range []struct{ a, b, equal, less int }{{1, 1, 1, 0}, {1, 2, 0, 1}, {2, 1, 0, 0}, {-1, 1, 0, 1}, {-most, most, 0, 1}, {most, -most, 0, 0}, {most, most, 1, 0}, {most - 1, most, 0, 1}} {
		gives(t, truth(c.equal), "=", num(c.a), num(c.b))
		gives(t, truth(c.less), "<", num(c.a), num(c.b))
	}
}

// All but two Ints is refused, and ahead of what comes of it.
func TestP49NoNumbers(t *testing.T) {
	for _, s := range []string{"+", "-", "*", "quotient", "remainder", "=", "<"} {
		for _, x := range words(truth(0), truth(1), null(), sym("a"), ref(0), ref(6), ref(14)) {
			refuses(t, applied(things(), s, x, num(0)), api.ErrKind)
			refuses(t, applied(things(), s, num(api.MaxInt), x), api.ErrKind)
			refuses(t, applied(things(), s, x, x), api.ErrKind)
		}
	}
}

func TestP49Pairs(t *testing.T) {
	w := things()
	for _, a := range words(num(1), truth(0), null(), sym("a"), ref(0), ref(6), ref(8), ref(10)) {
		tells(t, w, applied(w, "cons", a, num(5)), ref(18), globals(a, num(5)), heapOf(60, w.Heap.Words, pair(a, num(5))))
		tells(t, w, applied(w, "cons", num(5), a), ref(18), globals(num(5), a), heapOf(60, w.Heap.Words, pair(num(5), a)))
	}
	// a value is as it is found
	tells(t, w, applied(w, "cons", ref(14), ref(14)), ref(18), globals(ref(14), ref(14)), heapOf(60, w.Heap.Words, pair(ref(10), ref(10))))
	gives(t, num(1), "car", ref(0))
	gives(t, sym("b"), "cdr", ref(0))
	gives(t, ref(0), "car", ref(3))
	for _, x := range words(num(0), truth(0), null(), sym("a"), ref(6), ref(8), ref(10), ref(14)) {
		refuses(t, applied(w, "car", x), api.ErrKind)
		refuses(t, applied(w, "cdr", x), api.ErrKind)
	}
}

// What a pair has is told as it stands there.
func TestP49PairOfMoved(t *testing.T) {
	w := on(things(), heapOf(60, pair(ref(3), ref(3)), moved(7, null()), record(0, 0, null())))
	tells(t, w, applied(w, "car", ref(0)), ref(3), globals(ref(0), ref(0)), w.Heap)
	tells(t, w, applied(w, "cdr", ref(0)), ref(3), globals(ref(0), ref(0)), w.Heap)
}

func TestP49Asked(t *testing.T) {
	for _, c := range []struct {
		x               api.Word
		null, pair, not int
	}{
		{null(), 1, 0, 0}, {truth(0), 0, 0, 1}, {truth(1), 0, 0, 0}, {num(0), 0, 0, 0}, {num(1), 0, 0, 0}, {sym("a"), 0, 0, 0},
		{ref(0), 0, 1, 0}, {ref(3), 0, 1, 0}, {ref(6), 0, 0, 0}, {ref(8), 0, 0, 0}, {ref(10), 0, 0, 0}, {ref(14), 0, 0, 0},
	} {
		gives(t, truth(c.null), "null?", c.x)
		gives(t, truth(c.pair), "pair?", c.x)
		gives(t, truth(c.not), "not", c.x)
		refuses(t, applied(things(), "error", c.x), api.ErrRaise)
	}
}

func TestP49Same(t *testing.T) {
	l := words(null(), truth(0), truth(1), num(0), num(1), sym("a"), sym("b"), ref(0), ref(3), ref(6), ref(8), ref(10))
	for i, a := range l {
		for j, b := range l {
			want := 0
			if i == j {
				want = 1
			}
			gives(t, truth(want), "eq?", a, b)
		}
	}
	gives(t, truth(1), "eq?", ref(10), ref(14))
	gives(t, truth(1), "eq?", ref(14), ref(10))
	gives(t, truth(1), "eq?", ref(14), ref(14))
	gives(t, truth(0), "eq?", ref(14), ref(8))
	// two that have the same values are not the same
	w := on(things(), heapOf(50, box(null()), box(null())))
	tells(t, w, applied(w, "eq?", ref(0), ref(2)), truth(0), globals(ref(0), ref(2)), w.Heap)
}
