package heap_test

import (
	"math"
	"testing"

	"graftery/api"
	"graftery/heap"
)

// partHeap: things of all kinds, with their values unlike.
func partHeap() api.Heap {
	return heapOf(60,
		pair(num(1), ref(17)),                 // 0
		box(sym("b")),                         // 3
		closure(9, num(2), truth(1), null()),  // 5
		moved(14, num(3)),                     // 10
		moved(17),                             // 14
		record(1, 2, num(4), ref(10), num(5)), // 17
		record(3, 4),                          // 23
		closure(8),                            // 26
	)
}

// partsOf: the places of the values of what begins at an address.
func partsOf() map[int][]int {
	return map[int][]int{0: {1, 2}, 3: {4}, 5: {7, 8, 9}, 10: {20, 21, 22}, 14: {20, 21, 22}, 17: {20, 21, 22}, 23: {}, 26: {}}
}

func TestP38Part(t *testing.T) {
	h := partHeap()
	may(t, h, true)
	for at, l := range partsOf() {
		for i, place := range l {
			if w, e := heap.Part(h, ref(at), i); e != api.OK || w != h.Words[place] {
				t.Errorf("%d of %d: %v, %v, want %v", i, at, w, e, h.Words[place])
			}
		}
		for _, i := range []int{-1, len(l), len(l) + 1, math.MaxInt, math.MinInt} {
			if w, e := heap.Part(h, ref(at), i); e != api.ErrRange || w != (api.Word{}) {
				t.Errorf("%d of %d: %v, %v, want ErrRange", i, at, w, e)
			}
		}
	}
}

// noThings: values that are no Refs, and what is no value.
func noThings() []api.Word {
	return []api.Word{
		num(0), num(10), truth(0), null(), sym("a"),
		{}, ref(1), ref(-1), ref(28), sym(""), truth(2), num(api.MaxInt + 1), {Kind: api.Pair}, {Kind: api.Ref, S: "a"},
	}
}

func TestP38PartOfNothing(t *testing.T) {
	h := partHeap()
	for _, w := range noThings() {
		for _, i := range []int{0, -1, 9} {
			if v, e := heap.Part(h, w, i); e != api.ErrKind || v != (api.Word{}) {
				t.Errorf("%d of %v: %v, %v, want ErrKind", i, w, v, e)
			}
		}
	}
}

func TestP38Change(t *testing.T) {
	h := partHeap()
	for at, l := range partsOf() {
		for i, place := range l {
			for _, v := range []api.Word{num(77), ref(0), ref(at), ref(10), sym("c"), truth(0), null()} {
				want := api.Heap{Words: with(h.Words, place, v), Limit: h.Limit}
				if g, e := heap.Change(h, ref(at), i, v); e != api.OK || !same(g, want) {
					t.Errorf("%d of %d is %v: %v, %v", i, at, v, g, e)
				}
			}
		}
		for _, i := range []int{-1, len(l), math.MaxInt, math.MinInt} {
			changesNot(t, h, ref(at), i, num(1), api.ErrRange)
			changesNot(t, h, ref(at), i, api.Word{}, api.ErrRange) // ahead of what is wrong with the value
		}
	}
}

func changesNot(t *testing.T, h api.Heap, w api.Word, i int, v api.Word, want api.Errno) {
	t.Helper()
	if g, e := heap.Change(h, w, i, v); e != want || !isZero(g) {
		t.Errorf("%d of %v is %v: %v, %v, want %v", i, w, v, g, e, want)
	}
}

func TestP38ChangeRefused(t *testing.T) {
	h := partHeap()
	for _, w := range noThings() {
		for _, i := range []int{0, -1, 9} {
			changesNot(t, h, w, i, num(1), api.ErrKind)
			changesNot(t, h, w, i, api.Word{}, api.ErrKind)
		}
	}
	for _, v := range []api.Word{{}, ref(1), ref(-1), ref(28), sym(""), truth(2), num(api.MaxInt + 1), num(-api.MaxInt - 1), {Kind: api.Moved}, {Kind: api.Nil, S: "a"}} {
		changesNot(t, h, ref(0), 0, v, api.ErrKind)
		changesNot(t, h, ref(14), 2, v, api.ErrKind)
	}
}
