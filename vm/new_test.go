package vm_test

import (
	"slices"
	"testing"

	"graftery/api"
	"graftery/vm"
)

// full: a heap whose first words are boxes that nothing has, as many as it
// takes, and then things; so many words are left.
func full(left int, things ...[]api.Word) api.Heap {
	l := slices.Concat(things...)
	n := api.MinHeap - left - len(l)
	if n%2 == 1 {
		return api.Heap{Words: slices.Concat(pair(null(), null()), slices.Repeat(box(null()), n/2-1), l), Limit: api.MinHeap}
	}
	return api.Heap{Words: slices.Concat(slices.Repeat(box(null()), n/2), l), Limit: api.MinHeap}
}

func TestP48Box(t *testing.T) {
	w := world(globals(ref(2), num(7)), []api.Rec{rec("p")})
	w = on(w, heapOf(50, box(num(1)), box(num(2)), record(0, 0)))
	tells(t, w, runs(w, constant(num(3)), constant(sym("a")), boxed), ref(7), w.Globs, heapOf(50, w.Heap.Words, box(sym("a"))))
	tells(t, w, runs(w, constant(num(3)), constant(sym("a")), boxed, opened), sym("a"), w.Globs, heapOf(50, w.Heap.Words, box(sym("a"))))
	tells(t, w, runs(w, global("x"), opened), num(2), w.Globs, w.Heap)
	tells(t, w, runs(w, constant(num(3)), global("x"), constant(sym("b")), filled), num(3), w.Globs, heapOf(50, box(num(1)), box(sym("b")), record(0, 0)))
	tells(t, w, runs(w, global("x"), global("x"), filled, global("x")), ref(2), w.Globs, heapOf(50, box(num(1)), box(ref(2)), record(0, 0)))
}

func TestP48NoBox(t *testing.T) {
	w := on(world(globals(null(), null()), []api.Rec{rec("p")}, function(0, constant(null()))), heapOf(50, pair(null(), null()), closure(0), record(0, 0), moved(5)))
	for _, x := range words(num(0), truth(1), null(), sym("a"), ref(0), ref(3), ref(5), ref(8)) {
		w.Globs[0].Value = x
		refuses(t, runs(w, global("x"), opened), api.ErrKind)
		refuses(t, runs(w, constant(null()), global("x"), constant(num(1)), filled), api.ErrKind)
	}
	// the box is below the value
	refuses(t, runs(w, constant(null()), constant(num(1)), constant(num(1)), boxed, filled), api.ErrKind)
}

func TestP48Close(t *testing.T) {
	capts := func(n int) api.Func { return with(function(0, constant(null())), 0, n) }
	w := world(globals(ref(0), null()), nil, capts(0), capts(3), capts(40))
	w = on(w, heapOf(60, box(null())))
	tells(t, w, runs(w, closed(0, 0)), ref(2), w.Globs, heapOf(60, w.Heap.Words, closure(0)))
	three := code(constant(sym("a")), constant(num(1)), global("x"), constant(truth(1)))
	tells(t, w, runs(w, append(three, closed(1, 3))...), ref(2), w.Globs, heapOf(60, w.Heap.Words, closure(1, num(1), ref(0), truth(1))))
	tells(t, w, runs(w, append(three, closed(1, 3), pop)...), sym("a"), w.Globs, heapOf(60, w.Heap.Words, closure(1, num(1), ref(0), truth(1))))
	forty := slices.Repeat(code(constant(num(1))), 40)
	tells(t, w, runs(w, append(forty, closed(2, 40))...), ref(2), w.Globs, heapOf(60, w.Heap.Words, closure(2, slices.Repeat(words(num(1)), 40)...)))
}

// news: how each operator makes something new, how many words that has, and
// what it is, of the values 1 and 2.
func news() []struct {
	code  []api.Instr
	thing []api.Word
} {
	one, two := constant(num(1)), constant(num(2))
	return []struct {
		code  []api.Instr
		thing []api.Word
	}{
		{code(one, boxed), box(num(1))},
		{code(closed(0, 0)), closure(0)},
		{code(one, two, closed(1, 2)), closure(1, num(1), num(2))},
		{code(one, two, prim("cons")), pair(num(1), num(2))},
		{code(makes("p", 0)), record(0, 0)},
		{code(one, two, makes("q", 2)), record(1, 0, num(1), num(2))},
	}
}

func newsWorld() api.World {
	return world(globals(null(), null()), []api.Rec{rec("p"), rec("q", "a", "b")}, function(0, constant(null())), with(function(0, constant(null())), 0, 2))
}

// As long as there is room nothing is collected; then all is that nothing has.
func TestP48Room(t *testing.T) {
	for _, c := range news() {
		n := len(c.thing)
		w := on(newsWorld(), full(n))
		tells(t, w, runs(w, c.code...), ref(50-n), w.Globs, heapOf(50, w.Heap.Words, c.thing))
		w = on(w, full(n-1))
		tells(t, w, runs(w, c.code...), ref(0), w.Globs, heapOf(50, c.thing))
		w = on(w, full(0))
		tells(t, w, runs(w, c.code...), ref(0), w.Globs, heapOf(50, c.thing))
	}
}

// kept: a heap on which all lives, since x has it; so many words are left, an
// even number.
func kept(left int) ([]api.Glob, api.Heap) {
	h := api.Heap{Limit: api.MinHeap}
	last := null()
	for len(h.Words)+left < api.MinHeap {
		at := len(h.Words)
		h.Words = append(h.Words, box(last)...)
		last = ref(at)
	}
	return globals(last, null()), h
}

func TestP48NoRoom(t *testing.T) {
	for _, c := range news() {
		for _, left := range []int{0, 2, 4, 6} {
			w := newsWorld()
			w.Globs, w.Heap = kept(left)
			may(t, w, true)
			o := runs(w, c.code...)
			if len(c.thing) > left {
				refuses(t, o, api.ErrRoom)
			} else {
				tells(t, w, o, ref(50-left), w.Globs, heapOf(50, w.Heap.Words, c.thing))
			}
		}
	}
}

// Roots: globals, then of each call, from the first one on, itself, its locals,
// its stack; then the values of what is new.
func TestP48Roots(t *testing.T) {
	inner := with(function(2, local(0), boxed, store(2), local(1), constant(num(5)), prim("cons")), 3, 1)
	w := world(nil, nil, inner)
	w.Heap = heapOf(50,
		pair(sym("stack"), null()), // 0
		box(sym("value")),          // 3
		box(sym("local")),          // 5
		closure(0, null()),         // 7
		slices.Repeat(box(sym("gone")), 18),
		box(sym("glob")), // 46
	)
	w.Globs = []api.Glob{glob("x", ref(46)), glob("s", ref(0)), glob("v", ref(3)), glob("l", ref(5)), glob("c", ref(7))}
	body := code(
		global("l"), store(1), global("s"), global("c"), global("v"), constant(num(1)),
		constant(null()), assign("s"), constant(null()), assign("v"), constant(null()), assign("l"), constant(null()), assign("c"),
		call(2),
	)
	// For the box that is made first there is room; for the pair there is none.
	want := heapOf(50,
		box(sym("glob")),
		box(sym("local")),
		pair(sym("stack"), null()),
		closure(0, null()),
		box(sym("value")),
		box(ref(10)),
		pair(num(1), num(5)),
	)
	nils := []api.Glob{glob("x", ref(0)), glob("s", null()), glob("v", null()), glob("l", null()), glob("c", null())}
	tells(t, w, runsWith(w, 2, append(body, tick)...), ref(14), nils, want)
}

// What is popped is no root any more, but as a value of what is new: it stands
// behind what the stack below it has.
func TestP48Popped(t *testing.T) {
	h := full(0, box(sym("a")), box(sym("b")), box(sym("c")))
	w := world([]api.Glob{glob("x", ref(44)), glob("y", ref(46)), glob("z", ref(48))}, []api.Rec{rec("q", "a", "b")}, with(function(0, constant(null())), 0, 2))
	w = on(w, h)
	nils := []api.Glob{glob("x", null()), glob("y", null()), glob("z", null())}
	drop := code(constant(null()), assign("x"), constant(null()), assign("y"), constant(null()), assign("z"))
	body := slices.Concat(code(global("z"), global("y"), global("x")), drop)
	a, b, c := box(sym("a")), box(sym("b")), box(sym("c"))
	tells(t, w, runs(w, append(body, prim("cons"))...), ref(6), nils, heapOf(50, c, b, a, pair(ref(2), ref(4))))
	tells(t, w, runs(w, append(body, closed(0, 2))...), ref(6), nils, heapOf(50, c, b, a, closure(0, ref(2), ref(4))))
	tells(t, w, runs(w, append(body, makes("q", 2))...), ref(6), nils, heapOf(50, c, b, a, record(0, 0, ref(2), ref(4))))
	tells(t, w, runs(w, append(body, boxed)...), ref(6), nils, heapOf(50, c, b, a, box(ref(4))))
	// what else was popped is gone
	tells(t, w, runs(w, append(body, pop, boxed)...), ref(4), nils, heapOf(50, c, b, box(ref(2))))
}

// A call that ended has no roots any more.
func TestP48Ended(t *testing.T) {
	f := with(function(0, global("x"), store(0), constant(null()), assign("x"), local(0), constant(num(3))), 1, 0)
	w := on(world(globals(ref(46), ref(48)), nil, f), full(0, box(sym("a")), closure(0)))
	tells(t, w, runs(w, global("y"), call(0), boxed), ref(2), globals(null(), ref(0)), heapOf(50, closure(0), box(num(3))))
}

// When the heap is collected, what was moved is nowhere any more.
func TestP48Moved(t *testing.T) {
	w := world(globals(ref(42), null()), []api.Rec{rec("p", "a")})
	w = on(w, full(0, moved(46, null()), record(0, 0, ref(42))))
	tells(t, w, runs(w, global("x"), boxed), ref(4), globals(ref(0), null()), heapOf(50, record(0, 0, ref(0)), box(ref(0))))
	tells(t, w, runsWith(w, 1, global("x"), store(0), constant(num(1)), boxed, pop, local(0)), ref(0), globals(ref(0), null()), heapOf(50, record(0, 0, ref(0)), box(num(1))))
}

// A program that makes much, of which little lives, has room; one of which all
// lives has none.
func TestP48Again(t *testing.T) {
	// x: as often as its argument says, a pair; it has the last one only, or all
	f := func(last api.Instr) api.Func {
		return api.Func{Params: 2, Locals: 2, Code: code(tick, local(0), constant(num(0)), prim("="), orElse(7), local(1), ret, global("x"), local(0), constant(num(1)), prim("-"), local(0), last, prim("cons"), tail(2))}
	}
	w := on(world(globals(ref(0), null()), nil, f(constant(null()))), heapOf(50, closure(0)))
	tells(t, w, of(vm.Call(w, ref(0), words(num(1), null()), 9)), ref(2), w.Globs, heapOf(50, closure(0), pair(num(1), null())))
	o := of(vm.Call(w, ref(0), words(num(10000), null()), 20000))
	if o.code != api.OK || len(o.world.Heap.Words) > 50 || vm.Check(o.world) != api.OK {
		t.Error(o)
	}
	w.Funcs[0] = f(local(1))
	o = of(vm.Call(w, ref(0), words(num(16), null()), 20000))
	if o.code != api.OK || len(o.world.Heap.Words) != 50 {
		t.Error(o)
	}
	refuses(t, of(vm.Call(w, ref(0), words(num(17), null()), 20000)), api.ErrRoom)
}
