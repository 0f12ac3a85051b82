package heap_test

import (
	"math"
	"slices"
	"testing"

	"graftery/api"
	"graftery/heap"
)

// values and words that are none, on the heap of valueHeap.
func values() (good, bad []api.Word) {
	good = []api.Word{
		num(0), num(-1), num(api.MaxInt), num(-api.MaxInt),
		truth(0), truth(1), null(),
		sym("a"), sym(long(api.MaxName)), sym("A b\x00\xff"), sym("12"),
		ref(0), ref(3), ref(5), ref(8), ref(13), ref(17),
	}
	bad = []api.Word{
		{}, {Kind: -1}, {Kind: 11}, {Kind: math.MaxInt}, {Kind: math.MinInt},
		num(api.MaxInt + 1), num(-api.MaxInt - 1), num(math.MaxInt), num(math.MinInt),
		truth(2), truth(-1), {Kind: api.Nil, N: 1}, {Kind: api.Nil, N: -1},
		sym(""), sym(long(api.MaxName + 1)), {Kind: api.Sym, S: "a", N: 1}, {Kind: api.Sym, S: "a", N: -1},
		ref(-1), ref(1), ref(2), ref(4), ref(6), ref(7), ref(9), ref(12), ref(14), ref(18), ref(20), ref(21), ref(api.MaxHeap), ref(math.MaxInt), ref(math.MinInt),
		{Kind: api.Int, S: "a"}, {Kind: api.Bool, S: "a"}, {Kind: api.Nil, S: "a"}, {Kind: api.Ref, S: "a"},
		{Kind: api.Pair}, {Kind: api.Box}, {Kind: api.Closure}, {Kind: api.Record}, {Kind: api.Moved},
	}
	return good, bad
}

// valueHeap: a thing of each kind, that of 17 without values.
func valueHeap() api.Heap {
	return heapOf(50, pair(null(), null()), box(null()), closure(1, null()), record(2, 1, null(), null()), moved(8, null()), record(0, 0))
}

func TestP31Values(t *testing.T) {
	h := valueHeap()
	may(t, h, true)
	good, bad := values()
	for _, w := range good {
		if e := heap.CheckValue(h, w); e != api.OK {
			t.Errorf("%v: %v", w, e)
		}
	}
	for _, w := range bad {
		if e := heap.CheckValue(h, w); e != api.ErrKind {
			t.Errorf("%v: %v, want ErrKind", w, e)
		}
	}
	for _, w := range []api.Word{ref(0), ref(1), ref(-1)} {
		if e := heap.CheckValue(api.Heap{Limit: 50}, w); e != api.ErrKind {
			t.Errorf("%v on an empty heap: %v", w, e)
		}
	}
}

func TestP33ValuesOfThings(t *testing.T) {
	good, bad := values()
	ask := func(w api.Word, want bool) {
		t.Helper()
		h := valueHeap()
		for _, at := range []int{1, 2, 4, 7, 11, 12} {
			may(t, api.Heap{Words: with(h.Words, at, w), Limit: 50}, want)
		}
		// of a Moved they are whatever they are
		may(t, api.Heap{Words: with(h.Words, 16, w), Limit: 50}, true)
	}
	for _, w := range good {
		ask(w, true)
	}
	for _, w := range bad {
		ask(w, false)
	}
	// to what stands behind it, and to itself
	may(t, heapOf(50, box(ref(2)), box(ref(0))), true)
	may(t, heapOf(50, box(ref(0))), true)
	may(t, heapOf(50, pair(ref(0), ref(3))), false)
	may(t, heapOf(50, pair(ref(0), ref(3)), box(ref(3))), true)
}

func TestP32Heads(t *testing.T) {
	for _, c := range []struct {
		l    []api.Word
		most int
	}{
		{pair(null(), null()), 0},
		{box(null()), 0},
		{closure(0, null()), api.MaxFuncs - 1},
		{record(0, 0, null()), api.MaxRecs - 1},
	} {
		head := func(n int, s string) []api.Word {
			return with(c.l, 0, api.Word{Kind: c.l[0].Kind, N: n, S: s})
		}
		may(t, heapOf(50, head(0, "")), true)
		may(t, heapOf(50, head(c.most, "")), true)
		may(t, heapOf(50, head(c.most+1, "")), false)
		may(t, heapOf(50, head(-1, "")), false)
		may(t, heapOf(50, head(math.MaxInt, "")), false)
		may(t, heapOf(50, head(math.MinInt, "")), false)
		may(t, heapOf(50, head(0, "a")), false)
	}
	may(t, heapOf(50, record(0, 0), with(moved(0), 0, api.Word{Kind: api.Moved, S: "a"})), false)
	// what is no head
	for _, w := range []api.Word{{}, {Kind: -1}, {Kind: 11}, {Kind: math.MaxInt}, {Kind: math.MinInt}, num(0), num(1), truth(0), null(), sym("a"), ref(0)} {
		may(t, heapOf(50, []api.Word{w}), false)
		may(t, heapOf(50, []api.Word{w, null(), null()}), false)
		may(t, heapOf(50, box(null()), []api.Word{w}), false)
		may(t, heapOf(50, []api.Word{w}, box(null())), false)
	}
}

// wrongInts: no Int from 0 to a number.
func wrongInts(most int) []api.Word {
	return []api.Word{
		num(-1), num(most + 1), num(math.MaxInt), num(math.MinInt),
		{Kind: api.Int, N: most, S: "a"}, {Kind: api.Bool, N: most}, {Kind: api.Nil}, {Kind: api.Ref}, {Kind: api.Sym, S: "a"}, {},
	}
}

func TestP32Versions(t *testing.T) {
	may(t, heapOf(50, record(0, 0, null())), true)
	may(t, heapOf(50, record(0, api.MaxVers-1, null())), true)
	for _, w := range wrongInts(api.MaxVers - 1) {
		may(t, heapOf(50, with(record(0, 0, null()), 1, w)), false)
	}
	may(t, heapOf(50, record(0, 0), moved(0, null())), true)
	for _, w := range append(wrongInts(0), num(1)) {
		may(t, heapOf(50, record(0, 0), with(moved(0, null()), 1, w)), false)
	}
}

func TestP32Counts(t *testing.T) {
	for _, c := range []struct {
		most, at int
		thing    func(l ...api.Word) []api.Word
	}{
		{api.MaxLocals, 1, func(l ...api.Word) []api.Word { return closure(0, l...) }},
		{api.MaxFields, 2, func(l ...api.Word) []api.Word { return record(0, 0, l...) }},
		{api.MaxFields, 2, func(l ...api.Word) []api.Word { return moved(0, l...) }},
	} {
		ask := func(l []api.Word, want bool) {
			t.Helper()
			may(t, heapOf(100, record(0, 0), l), want)
		}
		for n := range c.most + 1 {
			ask(c.thing(nils(n)...), true)
			ask(append(c.thing(nils(n)...), box(null())...), true)
			ask(append(c.thing(nils(n)...), null()), false)
			ask(with(c.thing(nils(n)...), c.at, num(n+1)), false)
		}
		ask(c.thing(nils(c.most+1)...), false)
		for _, w := range wrongInts(c.most) {
			ask(with(c.thing(nils(c.most)...), c.at, w), false)
		}
	}
	// pairs and boxes have no such word
	may(t, heapOf(50, box(num(7)), pair(num(7), num(8))), true)
}

// Words that end within a thing.
func TestP33ToTheLastWord(t *testing.T) {
	h := valueHeap()
	ends := []int{0, 3, 5, 8, 13, 17, 20}
	for n := range h.Words {
		l := slices.Clone(h.Words[:n])
		may(t, api.Heap{Words: l, Limit: 50}, slices.Contains(ends, n))
	}
	may(t, h, true)
	// what is whole stays wrong, if something ahead of it is missing
	for n := 1; n < len(h.Words); n++ {
		if e := heap.Check(api.Heap{Words: h.Words[n:], Limit: 50}); !slices.Contains(ends, n) && e != api.ErrState {
			t.Errorf("from %d on: %v", n, e)
		}
	}
}

func TestP33Limits(t *testing.T) {
	for _, n := range []int{api.MinHeap, api.MinHeap + 1, 1000, api.MaxHeap - 1, api.MaxHeap} {
		may(t, api.Heap{Limit: n}, true)
		may(t, api.Heap{Words: []api.Word{}, Limit: n}, true)
	}
	for _, n := range []int{0, -1, -50, api.MinHeap - 1, api.MaxHeap + 1, math.MaxInt, math.MinInt} {
		may(t, api.Heap{Limit: n}, false)
		may(t, heapOf(n, box(null())), false)
	}
	for _, n := range []int{api.MinHeap, api.MaxHeap} {
		may(t, heapOf(n, boxes(n)), true)
		may(t, heapOf(n, boxes(n+2)), false)
		may(t, heapOf(n, boxes(n-2), pair(null(), null())), false)
	}
	may(t, heapOf(51, boxes(48), pair(null(), null())), true)
	may(t, heapOf(50, boxes(48), pair(null(), null())), false)
}

func TestP33Moved(t *testing.T) {
	may(t, heapOf(50, record(0, 0), moved(0)), true)                                   // to what stands ahead of it
	may(t, heapOf(50, moved(3), record(0, 0)), true)                                   // or behind it
	may(t, heapOf(50, moved(3), moved(6), record(0, 0)), true)                         // to a Moved behind it
	may(t, heapOf(50, record(0, 0), moved(6), moved(0)), true)                         // that was moved ahead of both
	may(t, heapOf(50, record(0, 0), moved(0), moved(3)), false)                        // to a Moved ahead of it
	may(t, heapOf(50, moved(0)), false)                                                // to itself
	may(t, heapOf(50, record(0, 0), moved(3)), false)                                  // so
	may(t, heapOf(50, moved(3), moved(0), record(0, 0)), false)                        // to each other
	may(t, heapOf(50, moved(6), moved(3), record(0, 0)), false)                        // one ahead may be, one behind not
	may(t, heapOf(50, record(0, 0), record(1, 0), moved(0), moved(0), moved(3)), true) // several to one
	may(t, heapOf(50, record(0, 0, null()), moved(0, null(), null())), true)
	for _, l := range [][]api.Word{box(null()), pair(null(), null()), closure(0)} {
		may(t, heapOf(50, l, moved(0)), false)
		may(t, heapOf(50, moved(3), l), false)
	}
	for _, n := range []int{-1, 1, 2, 4, 5, 6, 7, 50, api.MaxHeap, math.MaxInt, math.MinInt} {
		may(t, heapOf(50, record(0, 0), moved(n)), false)
	}
	may(t, heapOf(50, record(0, 0, null()), moved(3)), false) // to a value of a record
	// a value of a Moved is nowhere a head
	may(t, heapOf(50, moved(3, record(0, 0)...)), false)
	may(t, heapOf(50, moved(6, record(0, 0)...), record(0, 0)), true)
	may(t, heapOf(50, moved(6, record(0, 0)...), record(0, 0, ref(3))), false)
}

// All calls refuse what Check refuses, ahead of all else, and answer nothing.
func TestP33RefusedByAll(t *testing.T) {
	wrong := api.Word{Kind: 99}
	for _, h := range badHeaps() {
		may(t, h, false)
		for _, w := range []api.Word{null(), ref(0), wrong} {
			if e := heap.CheckValue(h, w); e != api.ErrState {
				t.Errorf("%v: CheckValue: %v", short(h), e)
			}
			if v, e := heap.Find(h, w); e != api.ErrState || v != (api.Word{}) {
				t.Errorf("%v: Find: %v, %v", short(h), v, e)
			}
			if g, l, e := heap.Collect(h, []api.Word{w}); e != api.ErrState || !isZero(g) || len(l) > 0 {
				t.Errorf("%v: Collect: %v, %v, %v", short(h), g, l, e)
			}
			if v, e := heap.Part(h, w, -1); e != api.ErrState || v != (api.Word{}) {
				t.Errorf("%v: Part: %v, %v", short(h), v, e)
			}
			if g, e := heap.Change(h, w, -1, wrong); e != api.ErrState || !isZero(g) {
				t.Errorf("%v: Change: %v, %v", short(h), g, e)
			}
		}
		for _, l := range [][]api.Word{nil, box(null()), {wrong}, boxes(api.MaxHeap + 2)} {
			if g, at, e := heap.Put(h, l); e != api.ErrState || !isZero(g) || at != 0 {
				t.Errorf("%v: Put: %v, %d, %v", short(h), g, at, e)
			}
		}
		if g, e := heap.Move(h, 0, 0); e != api.ErrState || !isZero(g) {
			t.Errorf("%v: Move: %v, %v", short(h), g, e)
		}
		if g, l, e := heap.Collect(h, nil); e != api.ErrState || !isZero(g) || len(l) > 0 {
			t.Errorf("%v: Collect of nothing: %v, %v, %v", short(h), g, l, e)
		}
	}
}
