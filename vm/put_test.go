package vm_test

import (
	"slices"
	"testing"

	"graftery/api"
	"graftery/vm"
)

func TestP413Put(t *testing.T) {
	w := grown(ref(0), null(), heapOf(50, box(num(1)), moved(5), record(0, 2, null())))
	for _, c := range []struct{ front, values []api.Word }{
		{pair(null(), null())[:1], words(num(1), ref(0))},
		{pair(num(1), null())[:2], words(ref(2))},
		{pair(num(1), ref(0)), nil},
		{box(null())[:1], words(ref(2))},
		{closure(2), nil},
		{closure(2)[:1], words(num(0))},
		{record(0, 0, num(1))[:3], words(num(1))},
		{record(0, 1, null(), null())[:3], words(sym("a"), ref(5))},
	} {
		tells(t, w, of(vm.Put(w, c.front, c.values)), ref(9), w.Globs, heapOf(50, w.Heap.Words, c.front, c.values))
	}
	// one that has itself: in the front
	tells(t, w, of(vm.Put(w, pair(ref(9), null())[:2], words(null()))), ref(9), w.Globs, heapOf(50, w.Heap.Words, pair(ref(9), null())))
}

func TestP413Kinds(t *testing.T) {
	w := grown(null(), null(), heapOf(50, pair(null(), null())))
	for _, x := range append(noValues(), ref(3)) {
		refuses(t, of(vm.Put(w, pair(x, x)[:1], words(x, null()))), api.ErrKind)
		refuses(t, of(vm.Put(w, pair(x, x)[:1], words(null(), x))), api.ErrKind)
		// ahead of all else that is wrong
		refuses(t, of(vm.Put(w, nil, words(x))), api.ErrKind)
		refuses(t, of(vm.Put(w, closure(9), words(null(), x))), api.ErrKind)
		refuses(t, of(vm.Put(w, slices.Repeat(words(null()), 60), words(x))), api.ErrKind)
		if x != ref(3) { // that is the new thing itself
			refuses(t, of(vm.Put(w, pair(x, null()), nil)), api.ErrForm)
		}
	}
}

func TestP413Forms(t *testing.T) {
	w := grown(null(), null(), heapOf(50, record(0, 2, null())))
	for _, l := range [][]api.Word{
		nil, words(null()), pair(null(), null())[:2], append(box(null()), null()), append(box(null()), box(null())...), moved(0),
		closure(2, null()), closure(3), closure(1999), record(0, 2), record(0, 2, null(), null()), record(0, 3, null()), record(1, 1, null()), record(2, 0), record(7, 19),
		closure(2000), record(8, 0), record(0, 20, null()), words(api.Word{Kind: api.Closure}, num(41)), words(api.Word{Kind: api.Box, N: 1}, null()),
	} {
		refuses(t, of(vm.Put(w, l, nil)), api.ErrForm)
		if len(l) > 1 {
			refuses(t, of(vm.Put(w, l[:1], slices.DeleteFunc(slices.Clone(l[1:]), func(w api.Word) bool { return w.Kind > api.Ref }))), api.ErrForm)
		}
	}
}

func TestP413Room(t *testing.T) {
	front := pair(null(), null())[:1]
	w := grown(ref(44), null(), full(3, box(num(1)), box(ref(0)))) // 43, 45
	w.Globs[0].Value = ref(45)
	tells(t, w, of(vm.Put(w, front, words(ref(43), num(2)))), ref(47), w.Globs, heapOf(50, w.Heap.Words, pair(ref(43), num(2))))
	// without room it is collected: roots are the globals, then the values
	w = grown(ref(46), null(), full(2, box(num(1)), box(sym("x"))))
	tells(t, w, of(vm.Put(w, front, words(ref(44), num(2)))), ref(4), globals(ref(0), null()), heapOf(50, box(sym("x")), box(num(1)), pair(ref(2), num(2))))
	tells(t, w, of(vm.Put(w, front, words(ref(44), ref(46)))), ref(4), globals(ref(0), null()), heapOf(50, box(sym("x")), box(num(1)), pair(ref(2), ref(0))))
	// what the front has is none of these
	tells(t, w, of(vm.Put(w, pair(num(1), null())[:2], words(ref(46)))), ref(2), globals(ref(0), null()), heapOf(50, box(sym("x")), pair(num(1), ref(0))))
	refuses(t, of(vm.Put(w, pair(ref(46), null())[:2], words(null()))), api.ErrForm)
	tells(t, w, of(vm.Put(w, pair(ref(2), null())[:2], words(null()))), ref(2), globals(ref(0), null()), heapOf(50, box(sym("x")), pair(ref(2), null())))
	// there is none then, too; ahead of what is not in form
	globs, h := kept(2)
	w = grown(null(), null(), h)
	w.Globs = globs
	refuses(t, of(vm.Put(w, front, words(null(), null()))), api.ErrRoom)
	refuses(t, of(vm.Put(w, closure(9, null()), nil)), api.ErrRoom)
	refuses(t, of(vm.Put(w, slices.Repeat(words(null()), 60001), nil)), api.ErrRoom)
	refuses(t, of(vm.Put(w, closure(9), nil)), api.ErrForm)
	refuses(t, of(vm.Put(w, nil, nil)), api.ErrForm)
	tells(t, w, of(vm.Put(w, closure(2), nil)), ref(48), w.Globs, heapOf(50, w.Heap.Words, closure(2)))
}
