package vm_test

import (
	"math"
	"testing"

	"graftery/api"
	"graftery/vm"
)

// noValues on a heap of at most 60 words whose first thing has three or more.
func noValues() []api.Word {
	return words(api.Word{}, num(api.MaxInt+1), truth(2), sym(""), sym(long(17)), ref(1), ref(2), ref(60), ref(-1), ref(math.MaxInt), ref(math.MinInt), api.Word{Kind: api.Ref, S: "a"}, api.Word{Kind: api.Record}, api.Word{Kind: 11})
}

func TestP412Touch(t *testing.T) {
	h := heapOf(60, pair(ref(0), null()), box(null()), closure(2), record(0, 2, num(1)), record(1, 0, null()), moved(7, null()), moved(11))
	w := grown(ref(15), null(), h)
	for _, x := range words(num(3), truth(0), null(), sym("a"), ref(0), ref(3), ref(5), ref(7), ref(11)) {
		tells(t, w, of(vm.Touch(w, x)), x, w.Globs, w.Heap)
	}
	tells(t, w, of(vm.Touch(w, ref(15))), ref(7), w.Globs, w.Heap)
	tells(t, w, of(vm.Touch(w, ref(19))), ref(11), w.Globs, w.Heap)
	for _, x := range noValues() {
		refuses(t, of(vm.Touch(w, x)), api.ErrKind)
	}
}

func TestP412BroughtUp(t *testing.T) {
	w := grown(ref(4), ref(0), heapOf(50, record(0, 0, num(5)), box(ref(0)), moved(0)))
	refuses(t, of(vm.Touch(w, ref(6))), api.ErrForm) // P3.9
	w = grown(ref(4), ref(0), heapOf(50, record(0, 0, num(5)), box(ref(0)), record(0, 0, num(6))))
	behind := heapOf(50, moved(13, null()), box(ref(0)), record(0, 0, num(6)), pair(num(5), null()), moved(18, null(), null()), record(0, 2, ref(10)))
	tells(t, w, of(vm.Touch(w, ref(0))), ref(18), w.Globs, behind)
	// its values are not
	w = grown(ref(0), null(), heapOf(50, record(0, 0, num(5)), record(0, 1, null(), ref(0))))
	tells(t, w, of(vm.Touch(w, ref(4))), ref(9), w.Globs, heapOf(50, record(0, 0, num(5)), moved(9, null(), null()), record(0, 2, ref(0))))
}

// The stack has just this: what it has lives, though no global has it.
func TestP412Collected(t *testing.T) {
	w := grown(ref(44), null(), full(0, box(sym("v")), record(0, 0, num(5))))
	behind := heapOf(50, box(sym("v")), moved(9, null()), pair(num(5), null()), moved(14, null(), null()), record(0, 2, ref(6)))
	tells(t, w, of(vm.Touch(w, ref(46))), ref(14), globals(ref(0), null()), behind)
}

func TestP415Settle(t *testing.T) {
	// The value is a root behind those of the globals, and ahead of what these have.
	w := grown(ref(7), null(), heapOf(60, box(sym("gone")), record(0, 1, null(), sym("c")), pair(ref(2), null()), record(0, 0, num(5))))
	behind := heapOf(60, pair(ref(7), null()), moved(15, null()), moved(24, null(), null()), pair(num(5), null()), moved(20, null(), null()), record(0, 2, ref(12)), record(0, 2, sym("c")))
	tells(t, w, of(vm.Settle(w, ref(10))), ref(20), globals(ref(0), null()), behind)
	// What is no root is gone, and not brought up.
	behind = heapOf(60, pair(ref(3), null()), moved(8, null(), null()), record(0, 2, sym("c")))
	tells(t, w, of(vm.Settle(w, ref(7))), ref(0), globals(ref(0), null()), behind)
	tells(t, w, of(vm.Settle(w, sym("a"))), sym("a"), globals(ref(0), null()), behind)
	w.Globs[0].Value = null()
	tells(t, w, of(vm.Settle(w, num(1))), num(1), w.Globs, api.Heap{Limit: 60})
	// Where all are as they are now the heap is but collected.
	w = grown(ref(11), ref(7), heapOf(60, moved(3), record(0, 2, null()), record(1, 0, ref(0)), closure(2)))
	tells(t, w, of(vm.Settle(w, ref(0))), ref(6), globals(ref(0), ref(2)), heapOf(60, closure(2), record(1, 0, ref(6)), record(0, 2, null())))
	for _, x := range noValues() {
		refuses(t, of(vm.Settle(w, x)), api.ErrKind)
	}
}

// A record that nothing has any more, since the one that had it was brought
// up, is on the heap yet.
func TestP415NothingHasIt(t *testing.T) {
	w := grown(ref(0), null(), heapOf(60, record(0, 1, ref(5), num(1)), record(0, 1, num(2), num(3))))
	behind := heapOf(60, moved(10, null(), null()), moved(14, null(), null()), record(0, 2, num(1)), record(0, 2, num(3)))
	tells(t, w, of(vm.Settle(w, null())), null(), w.Globs, behind)
	w.Funcs[2] = function(2, local(1), prim("car"))
	refuses(t, of(vm.Settle(w, null())), api.ErrKind)
}

// chain of boxes, each of which has the next one; they begin at a place, and
// the last one has a value.
func chain(at, n int, last api.Word) []api.Word {
	var l []api.Word
	for i := range n - 1 {
		l = append(l, box(ref(at+2*i+2))...)
	}
	return append(l, box(last)...)
}

// When the heap is collected on the way, the first one is looked for anew.
func TestP415Collected(t *testing.T) {
	// y has a record; x has boxes, these have one, which has another, which has
	// a third. There is room for two more: for the third one it is collected.
	h := heapOf(50, chain(0, 13, ref(26)), record(0, 0, ref(30)), record(0, 0, ref(34)), record(0, 0, null()), record(0, 0, null()))
	w := on(world(globals(ref(0), ref(38)), []api.Rec{then(rec("p", "a"), []string{"a"}, 0)}, function(1, local(0))), h)
	behind := heapOf(50, box(ref(14)), record(0, 1, null()), moved(42, null()), moved(46, null()), chain(14, 12, ref(38)), record(0, 1, ref(6)), record(0, 1, ref(10)), record(0, 1, null()))
	tells(t, w, of(vm.Settle(w, null())), null(), globals(ref(0), ref(2)), behind)
	// Three boxes more, and there is no room for one more.
	w.Heap = heapOf(50, chain(0, 16, ref(32)), record(0, 0, ref(36)), record(0, 0, ref(40)), record(0, 0, null()), record(0, 0, null()))
	w.Globs = globals(ref(0), ref(44))
	refuses(t, of(vm.Settle(w, null())), api.ErrRoom)
}
