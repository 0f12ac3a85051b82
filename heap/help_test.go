package heap_test

import (
	"reflect"
	"slices"
	"strings"
	"testing"

	"graftery/api"
	"graftery/heap"
)

func num(n int) api.Word    { return api.Word{Kind: api.Int, N: n} }
func truth(n int) api.Word  { return api.Word{Kind: api.Bool, N: n} }
func null() api.Word        { return api.Word{Kind: api.Nil} }
func sym(s string) api.Word { return api.Word{Kind: api.Sym, S: s} }
func ref(n int) api.Word    { return api.Word{Kind: api.Ref, N: n} }

func pair(a, b api.Word) []api.Word { return []api.Word{{Kind: api.Pair}, a, b} }
func box(a api.Word) []api.Word     { return []api.Word{{Kind: api.Box}, a} }

func closure(n int, l ...api.Word) []api.Word {
	return append([]api.Word{{Kind: api.Closure, N: n}, num(len(l))}, l...)
}

func record(n, version int, l ...api.Word) []api.Word {
	return append([]api.Word{{Kind: api.Record, N: n}, num(version), num(len(l))}, l...)
}

func moved(to int, l ...api.Word) []api.Word {
	return append([]api.Word{{Kind: api.Moved, N: to}, num(0), num(len(l))}, l...)
}

// nils: so many.
func nils(n int) []api.Word { return slices.Repeat([]api.Word{null()}, n) }

// with: the words, but that one of them is another.
func with(l []api.Word, at int, w api.Word) []api.Word {
	c := slices.Clone(l)
	c[at] = w
	return c
}

// heapOf things, one behind the other.
func heapOf(limit int, things ...[]api.Word) api.Heap {
	return api.Heap{Words: slices.Concat(things...), Limit: limit}
}

// boxes: so many words of them, each with a Nil.
func boxes(words int) []api.Word {
	return slices.Repeat(box(null()), words/2)
}

// same heap, whether a list without elements is nil or not.
func same(a, b api.Heap) bool { return a.Limit == b.Limit && slices.Equal(a.Words, b.Words) }

func isZero(h api.Heap) bool { return h.Limit == 0 && len(h.Words) == 0 }

// may: the heap may be, or it may not.
func may(t *testing.T, h api.Heap, want bool) {
	t.Helper()
	e := heap.Check(h)
	if want && e != api.OK || !want && e != api.ErrState {
		t.Errorf("%v: %v, want %v", short(h), e, want)
	}
}

// short: a heap whose telling does not fill the screen.
func short(h api.Heap) api.Heap {
	if len(h.Words) > 30 {
		h.Words = h.Words[:30]
	}
	return h
}

// badHeaps: one for each thing that may be wrong.
func badHeaps() []api.Heap {
	return []api.Heap{
		{},
		{Limit: api.MinHeap - 1},
		{Limit: api.MaxHeap + 1},
		heapOf(50, boxes(52)),
		heapOf(50, []api.Word{num(1)}),
		heapOf(50, []api.Word{{Kind: api.Pair}, null()}),
		heapOf(50, box(ref(1))),
		heapOf(50, moved(0)),
		heapOf(50, box(null()), moved(0)),
	}
}

// room that a list takes, with its spare room.
type room struct{ from, to uintptr }

func roomOf(l []api.Word) room {
	v := reflect.ValueOf(l)
	return room{v.Pointer(), v.Pointer() + uintptr(v.Cap())*v.Type().Elem().Size()}
}

// areApart: do no two of the lists share memory?
func areApart(lists ...[]api.Word) bool {
	lists = slices.DeleteFunc(lists, func(l []api.Word) bool { return cap(l) == 0 })
	slices.SortFunc(lists, func(a, b []api.Word) int { return int(int64(roomOf(a).from) - int64(roomOf(b).from)) })
	for i := 1; i < len(lists); i++ {
		if roomOf(lists[i]).from < roomOf(lists[i-1]).to {
			return false
		}
	}
	return true
}

// roomy: the words in a list with spare room that is not empty.
func roomy(l []api.Word) []api.Word {
	r := append(make([]api.Word, 0, len(l)+8), l...)
	for i := len(l); i < cap(r); i++ {
		r[:cap(r)][i] = sym("spare")
	}
	return r
}

// full: the words with their spare room, as a copy.
func full(l []api.Word) []api.Word { return slices.Clone(l[:cap(l)]) }

func long(n int) string { return strings.Repeat("x", n) }
