package heap_test

import (
	"slices"
	"testing"

	"graftery/api"
	"graftery/heap"
)

// finds: where a value is.
func finds(t *testing.T, h api.Heap, w, want api.Word) {
	t.Helper()
	if got, e := heap.Find(h, w); e != api.OK || got != want {
		t.Errorf("%v on %v: %v, %v, want %v", w, short(h), got, e, want)
	}
}

func TestP35Find(t *testing.T) {
	h := heapOf(50, moved(6), record(0, 0), moved(11, num(1), num(2)), moved(14), record(1, 0, num(9)), moved(3))
	may(t, h, true)
	for from, to := range map[int]int{0: 14, 3: 3, 6: 14, 11: 14, 14: 14, 18: 3} {
		finds(t, h, ref(from), ref(to))
	}
	good := []api.Word{num(0), num(6), num(18), truth(0), truth(1), null(), sym("a"), num(-api.MaxInt)}
	for _, w := range good { // what is no Ref is as it is, whatever its N is
		finds(t, h, w, w)
	}
	plain := heapOf(50, box(null()), pair(null(), null()), closure(0))
	for _, at := range []int{0, 2, 5} {
		finds(t, plain, ref(at), ref(at))
	}
	for _, w := range []api.Word{ref(1), ref(-1), ref(21), {}, num(api.MaxInt + 1), {Kind: api.Ref, S: "a"}} {
		if got, e := heap.Find(h, w); e != api.ErrKind || got != (api.Word{}) {
			t.Errorf("%v: %v, %v, want ErrKind", w, got, e)
		}
	}
}

// manyMoved: so many, each to the next one, and a record in the end.
func manyMoved(n int) []api.Word {
	var l []api.Word
	for i := range n {
		l = append(l, moved(3*i+3)...)
	}
	return append(l, record(0, 0)...)
}

// As often as it is a Moved, and without going that way for each value anew.
func TestP35LongWays(t *testing.T) {
	last := api.MaxHeap/3 - 1
	h := heapOf(api.MaxHeap, manyMoved(last))
	finds(t, h, ref(0), ref(3*last))
	finds(t, h, ref(3*last-3), ref(3*last))
	n := 10000
	h = heapOf(api.MaxHeap, manyMoved(n))
	for len(h.Words)+3 <= h.Limit {
		h.Words = append(h.Words, pair(ref(0), ref(3))...)
	}
	roots := slices.Repeat([]api.Word{ref(0), ref(len(h.Words) - 3)}, 100000)
	g, l, e := heap.Collect(h, roots)
	if e != api.OK || !same(g, heapOf(api.MaxHeap, record(0, 0), pair(ref(0), ref(0)))) || len(l) != len(roots) || l[0] != ref(0) || l[len(l)-1] != ref(3) {
		t.Errorf("%v, %d roots, %v", short(g), len(l), e)
	}
}

// collects: the heap is this one then, and the roots are these.
func collects(t *testing.T, h api.Heap, roots []api.Word, want api.Heap, wantRoots []api.Word) {
	t.Helper()
	may(t, h, true)
	g, l, e := heap.Collect(h, roots)
	if e != api.OK || !same(g, want) || !slices.Equal(l, wantRoots) {
		t.Errorf("%v of %v: %v, %v, %v, want %v, %v", roots, short(h), short(g), l, e, short(want), wantRoots)
	}
	may(t, g, true)
}

func words(l ...api.Word) []api.Word { return l }

func TestP37Collect(t *testing.T) {
	h := heapOf(70,
		pair(num(1), ref(3)),                // 0
		box(ref(5)),                         // 3
		closure(4, ref(15), num(2), ref(0)), // 5
		record(2, 3, ref(3), sym("a")),      // 10
		box(num(8)),                         // 15
	)
	nothing := api.Heap{Limit: 70}
	collects(t, h, nil, nothing, nil)
	collects(t, h, words(num(3), null(), sym("b"), truth(1)), nothing, words(num(3), null(), sym("b"), truth(1)))
	collects(t, h, words(ref(15)), heapOf(70, box(num(8))), words(ref(0)))
	// the roots first, in their order; then what they reach, level by level
	collects(t, h, words(ref(15), num(0), ref(10), ref(15)),
		heapOf(70, box(num(8)), record(2, 3, ref(7), sym("a")), box(ref(9)), closure(4, ref(0), num(2), ref(14)), pair(num(1), ref(7))),
		words(ref(0), num(0), ref(2), ref(0)))
	// around and around
	collects(t, h, words(ref(0)),
		heapOf(70, pair(num(1), ref(3)), box(ref(5)), closure(4, ref(10), num(2), ref(0)), box(num(8))),
		words(ref(0)))
	collects(t, heapOf(50, box(ref(0))), words(ref(0), ref(0)), heapOf(50, box(ref(0))), words(ref(0), ref(0)))
	collects(t, nothing, nil, nothing, nil)
}

// All values of one thing are brought ahead of those of the next one.
func TestP37Order(t *testing.T) {
	h := heapOf(50,
		pair(ref(3), ref(5)), // 0
		box(ref(7)),          // 3
		box(ref(9)),          // 5
		box(num(1)),          // 7
		box(num(2)),          // 9
	)
	collects(t, h, words(ref(0)), h, words(ref(0)))
	collects(t, h, words(ref(5), ref(0)),
		heapOf(50, box(ref(5)), pair(ref(7), ref(0)), box(num(2)), box(ref(9)), box(num(1))),
		words(ref(0), ref(2)))
	collects(t, heapOf(50, pair(ref(5), ref(3)), box(num(1)), box(num(2))), words(ref(0)),
		heapOf(50, pair(ref(3), ref(5)), box(num(2)), box(num(1))), words(ref(0)))
}

func TestP37Moved(t *testing.T) {
	// a Moved is what it was moved to, and is gone
	h := heapOf(50,
		moved(8, num(7)),              // 0
		box(ref(0)),                   // 4
		closure(0),                    // 6
		moved(13, ref(4), api.Word{}), // 8
		record(1, 2, ref(8), ref(6)),  // 13
	)
	collects(t, h, words(ref(0)), heapOf(50, record(1, 2, ref(0), ref(5)), closure(0)), words(ref(0)))
	collects(t, h, words(ref(4), ref(8), ref(13)),
		heapOf(50, box(ref(2)), record(1, 2, ref(2), ref(7)), closure(0)),
		words(ref(0), ref(2), ref(2)))
	collects(t, h, words(ref(6)), heapOf(50, closure(0)), words(ref(0)))
	// the same of a record that stands ahead
	collects(t, heapOf(50, record(0, 0, ref(4)), moved(0)), words(ref(4)), heapOf(50, record(0, 0, ref(0))), words(ref(0)))
}

// The words of a thing that are no values stay, though they look like some.
func TestP37OtherWords(t *testing.T) {
	h := heapOf(50, box(null()), record(5, 2, ref(0)), closure(2, num(2)))
	collects(t, h, words(ref(2), ref(6)), heapOf(50, record(5, 2, ref(7)), closure(2, num(2)), box(null())), words(ref(0), ref(4)))
}

func TestP37FullHeap(t *testing.T) {
	var l []api.Word // a list through the whole heap, from its end on
	for at := 0; at < api.MaxHeap; at += 3 {
		rest := null()
		if at > 0 {
			rest = ref(at - 3)
		}
		l = append(l, pair(num(at), rest)...)
	}
	h := heapOf(api.MaxHeap, l)
	g, roots, e := heap.Collect(h, words(ref(api.MaxHeap-3)))
	if e != api.OK || len(g.Words) != api.MaxHeap || roots[0] != ref(0) || g.Words[1] != num(api.MaxHeap-3) || g.Words[2] != ref(3) || g.Words[api.MaxHeap-1] != null() {
		t.Error(e)
	}
	may(t, g, true)
}

func TestP37NoValue(t *testing.T) {
	h := heapOf(50, box(null()), moved(5), record(0, 0))
	for _, w := range []api.Word{{}, ref(1), ref(-1), ref(8), sym(""), truth(2), {Kind: api.Box}, num(api.MaxInt + 1)} {
		for _, roots := range [][]api.Word{{w}, {ref(0), w}, {w, ref(0)}, {null(), ref(2), w, num(1)}} {
			if g, l, e := heap.Collect(h, roots); e != api.ErrKind || !isZero(g) || len(l) > 0 {
				t.Errorf("%v: %v, %v, %v, want ErrKind", roots, g, l, e)
			}
		}
	}
}
