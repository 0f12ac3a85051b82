package heap_test

import (
	"slices"
	"testing"

	"graftery/api"
	"graftery/heap"
)

// puts: the words come behind all.
func puts(t *testing.T, h api.Heap, l []api.Word) {
	t.Helper()
	want := api.Heap{Words: slices.Concat(h.Words, l), Limit: h.Limit}
	g, at, e := heap.Put(h, l)
	if e != api.OK || at != len(h.Words) || !same(g, want) {
		t.Errorf("%v behind %v: %v, %d, %v", l, short(h), short(g), at, e)
	}
	may(t, g, true)
}

// putsNot: they are refused.
func putsNot(t *testing.T, h api.Heap, l []api.Word, want api.Errno) {
	t.Helper()
	g, at, e := heap.Put(h, l)
	if e != want || at != 0 || !isZero(g) {
		t.Errorf("%v behind %v: %v, %d, %v, want %v", l, short(h), short(g), at, e, want)
	}
}

func TestP36Put(t *testing.T) {
	empty := api.Heap{Limit: 50}
	for _, h := range []api.Heap{empty, heapOf(50, box(null())), heapOf(60, record(0, 0, null()), moved(0))} {
		for _, l := range [][]api.Word{
			box(num(1)), pair(num(1), sym("a")), closure(7), closure(7, truth(1), null()),
			record(3, 4), record(api.MaxRecs-1, api.MaxVers-1, nils(api.MaxFields)...), closure(api.MaxFuncs-1, nils(api.MaxLocals)...),
		} {
			puts(t, h, l)
		}
	}
	// with values on the heap, and with itself
	h := heapOf(50, record(0, 0, null()), moved(0))
	puts(t, h, pair(ref(0), ref(4)))
	puts(t, h, pair(ref(7), ref(7)))
	puts(t, empty, box(ref(0)))
	puts(t, empty, closure(1, ref(0), null()))
}

func TestP36WrongForm(t *testing.T) {
	for _, h := range []api.Heap{{Limit: 60}, heapOf(60, record(0, 0))} {
		n := len(h.Words)
		for _, l := range [][]api.Word{
			nil,
			{},
			{{}},
			{null()},
			{ref(0)},
			{{Kind: api.Pair}},
			{{Kind: api.Pair}, null()},
			{{Kind: api.Record}},
			{{Kind: api.Closure}},
			{{Kind: api.Pair, N: 1}, null(), null()},
			{{Kind: api.Box, S: "a"}, null()},
			append(box(null()), null()), // a word more
			append(box(null()), box(null())...),
			append(record(0, 0), closure(0)...),
			with(closure(0, null()), 1, num(0)),
			with(closure(0, null()), 1, num(2)),
			closure(0, nils(api.MaxLocals+1)...),
			record(0, 0, nils(api.MaxFields+1)...),
			closure(api.MaxFuncs),
			record(api.MaxRecs, 0),
			record(0, api.MaxVers),
			moved(0),
			moved(n),
			moved(n + 3),
			append(moved(n+3), record(0, 0)...),
			box(num(api.MaxInt + 1)),
			box(sym("")),
			box(api.Word{}),
			box(api.Word{Kind: api.Box}),
			box(ref(1)),
			box(ref(-1)),
			box(ref(n + 1)),
			box(ref(n + 2)),
			pair(null(), truth(2)),
		} {
			putsNot(t, h, l, api.ErrForm)
		}
	}
}

func TestP36Room(t *testing.T) {
	for _, limit := range []int{api.MinHeap, api.MinHeap + 1, api.MaxHeap} {
		even := limit / 2 * 2
		puts(t, heapOf(limit, boxes(even-2)), box(null()))
		puts(t, heapOf(limit, boxes(even-4), closure(0)), box(null()))
		full := heapOf(limit, boxes(even))
		putsNot(t, full, box(null()), api.ErrRoom)
		putsNot(t, full, nil, api.ErrForm)
	}
	h := heapOf(50, boxes(48)) // two words may come
	puts(t, h, closure(0))
	putsNot(t, h, pair(null(), null()), api.ErrRoom)
	putsNot(t, h, record(0, 0), api.ErrRoom)
	// ahead of what is wrong with them
	putsNot(t, h, []api.Word{{}, {}, {}}, api.ErrRoom)
	putsNot(t, h, moved(0), api.ErrRoom)
	putsNot(t, h, pair(ref(-1), null()), api.ErrRoom)
	putsNot(t, h, append(box(null()), null()), api.ErrRoom)
	putsNot(t, h, box(ref(-1)), api.ErrForm)
	putsNot(t, h, []api.Word{{}, {}}, api.ErrForm)
	putsNot(t, h, []api.Word{{}}, api.ErrForm)
	putsNot(t, api.Heap{Limit: api.MaxHeap}, boxes(api.MaxHeap+2), api.ErrRoom)
	putsNot(t, api.Heap{Limit: api.MaxHeap}, boxes(api.MaxHeap), api.ErrForm)
}
