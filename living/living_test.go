package living_test

import (
	"reflect"
	"testing"

	"graftery/api"
	"graftery/living"
	"graftery/vm"
)

func number(n int) api.Word { return api.Word{Kind: api.Int, N: n} }
func ref(n int) api.Word    { return api.Word{Kind: api.Ref, N: n} }

// world: a pair that has two boxes, one of which has a global, too, and a box that nobody has.
func world() api.World {
	box, pair := api.Word{Kind: api.Box}, api.Word{Kind: api.Pair}
	return api.World{
		Globs: []api.Glob{{Name: "x", Value: number(5)}, {Name: "y", Value: ref(4)}, {Name: "z", Value: ref(2)}},
		Heap:  api.Heap{Words: []api.Word{box, number(1), box, number(2), pair, ref(7), ref(2), box, number(3)}, Limit: api.MinHeap},
	}
}

func TestCollected(t *testing.T) {
	w, before := world(), world()
	got, e := living.Collected(w)
	want := world()
	want.Globs[1].Value, want.Globs[2].Value = ref(0), ref(3)
	want.Heap.Words = []api.Word{{Kind: api.Pair}, ref(5), ref(3), {Kind: api.Box}, number(2), {Kind: api.Box}, number(3)}
	if e != api.OK || !reflect.DeepEqual(got.Heap, want.Heap) || !reflect.DeepEqual(got.Globs, want.Globs) {
		t.Errorf("%v, %v, want %v", got, e, want)
	}
	if !reflect.DeepEqual(w, before) {
		t.Errorf("what was handed in is not as it was: %v", w)
	}
	got.Globs[0].Value, got.Heap.Words[1] = number(6), number(6)
	if !reflect.DeepEqual(w, before) {
		t.Errorf("memory is shared: %v", w)
	}
}

func TestCollectedNothing(t *testing.T) {
	w := api.World{Heap: api.Heap{Limit: api.MinHeap}}
	got, e := living.Collected(w)
	if e != api.OK || len(got.Globs)+len(got.Heap.Words) > 0 || got.Heap.Limit != api.MinHeap || vm.Check(got) != api.OK {
		t.Errorf("%v, %v", got, e)
	}
}

func TestCollectedWrong(t *testing.T) {
	full, lost := world(), world()
	full.Heap.Limit = 0
	lost.Globs[0].Value = ref(1)
	for _, c := range []struct {
		w    api.World
		want api.Errno
	}{{full, api.ErrState}, {lost, api.ErrKind}, {api.World{}, api.ErrState}} {
		if got, e := living.Collected(c.w); e != c.want || !reflect.DeepEqual(got, api.World{}) {
			t.Errorf("%v, %v, want %v", got, e, c.want)
		}
	}
}
