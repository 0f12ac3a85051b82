package heap_test

import (
	"slices"
	"testing"

	"graftery/api"
	"graftery/heap"
)

// answers of all calls: their lists, and all else.
func answers(h api.Heap, l []api.Word, a, b int) ([][]api.Word, []any) {
	e1 := heap.Check(h)
	e2 := heap.CheckValue(h, ref(a))
	w1, e3 := heap.Find(h, ref(a))
	g1, at, e4 := heap.Put(h, l)
	g2, roots, e5 := heap.Collect(h, l)
	w2, e6 := heap.Part(h, ref(a), 0)
	g3, e7 := heap.Change(h, ref(a), 0, ref(b))
	g4, e8 := heap.Move(h, a, b)
	lists := [][]api.Word{g1.Words, g2.Words, roots, g3.Words, g4.Words}
	return lists, []any{e1, e2, w1, e3, at, e4, g1.Limit, g2.Limit, e5, w2, e6, g3.Limit, e7, g4.Limit, e8}
}

func TestArgumentsStayAndAnswersAreNew(t *testing.T) {
	h := heapOf(60, record(0, 0, ref(4)), record(1, 1, ref(0), num(1)), pair(ref(0), ref(4)), moved(4), box(ref(12)))
	h.Words = roomy(h.Words)
	may(t, h, true)
	empty := api.Heap{Words: roomy(nil), Limit: 50}
	for _, g := range []api.Heap{h, empty, {Words: roomy(box(num(1))), Limit: 3}} {
		for _, l := range [][]api.Word{nil, roomy(nil), roomy(box(ref(9))), roomy(words(ref(0), ref(15), ref(4), num(3))), roomy(words(api.Word{}))} {
			for _, a := range []int{0, 4, 9, 12, 15, 99} {
				wantHeap, wantList := full(g.Words), full(l)
				one, more := answers(g, l, a, 4)
				two, again := answers(g, l, a, 4)
				if !slices.Equal(full(g.Words), wantHeap) || !slices.Equal(full(l), wantList) {
					t.Errorf("%v, %v, %d: what was handed in is not as it was", g, l, a)
				}
				if !areApart(append(slices.Concat(one, two), g.Words, l)...) {
					t.Errorf("%v, %v, %d: lists share memory", g, l, a)
				}
				if !slices.EqualFunc(one, two, slices.Equal) || !slices.Equal(more, again) {
					t.Errorf("%v, %v, %d: two answers: %v %v, %v %v", g, l, a, one, more, two, again)
				}
			}
		}
	}
}

// What comes of a call is nobody's but the caller's: he may change it.
func TestAnswersMayBeChanged(t *testing.T) {
	h := heapOf(50, box(num(1)), box(ref(0)))
	want := slices.Clone(h.Words)
	one, _, _ := heap.Put(h, box(null()))
	two, roots, _ := heap.Collect(h, words(ref(2)))
	three, _ := heap.Change(h, ref(0), 0, num(2))
	for _, l := range [][]api.Word{one.Words, two.Words, roots, three.Words} {
		clear(l[:cap(l)])
	}
	if !slices.Equal(h.Words, want) {
		t.Error(h.Words)
	}
}
