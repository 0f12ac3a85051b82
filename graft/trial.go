package graft

import (
	"iter"

	"graftery/api"
	"graftery/living"
	"graftery/vm"
)

// try to bring up each record that lives. What comes of it is forgotten: the
// grafter's world stays as it is.
func (g *grafter) try() api.Errno {
	if len(g.unit.Upgrades) == 0 {
		return api.OK
	}
	w, e := living.Collected(g.world)
	if e != api.OK {
		return e
	}
	if areBroughtUp(w) {
		return api.OK
	}
	return tryEach(w)
}

// areBroughtUp: can all records be brought up, one behind the other, while the
// heap is not collected between them? Then each one can be for itself, since
// there was room for what it takes beside all that the others took. To look so
// is one call, where to try each one is a call for each. That the heap was not
// collected is seen by what is there of those that were moved: one thing for
// each step from version to version. (If it was collected ahead of the first
// step alone, all that lives is still there.)
func areBroughtUp(w api.World) bool {
	steps := 0
	for at := range things(w.Heap.Words) {
		steps += stepsOf(w, at)
	}
	settled, _, e := vm.Settle(w, api.Word{Kind: api.Nil})
	if e != api.OK {
		return false
	}
	for at := range things(settled.Heap.Words) {
		if settled.Heap.Words[at].Kind == api.Moved {
			steps--
		}
	}
	return steps == 0
}

// tryEach for itself: ErrRoom, or the least number of what is refused.
func tryEach(w api.World) api.Errno {
	least := api.OK
	for at := range things(w.Heap.Words) {
		if stepsOf(w, at) == 0 {
			continue
		}
		_, _, e := vm.Touch(w, api.Word{Kind: api.Ref, N: at})
		if e == api.ErrRoom {
			return e
		}
		if e != api.OK && (least == api.OK || e < least) {
			least = e
		}
	}
	return least
}

// stepsOf the thing at an address to the version that is now; 0, if it is no
// record.
func stepsOf(w api.World, at int) int {
	l := w.Heap.Words
	if l[at].Kind != api.Record {
		return 0
	}
	return len(w.Recs[l[at].N].Vers) - 1 - l[at+1].N
}

// things of words: where they begin, one behind the other.
func things(words []api.Word) iter.Seq[int] {
	return func(yield func(int) bool) {
		for at := 0; at < len(words) && yield(at); {
			at += sizeOf(words[at:])
		}
	}
}

// sizeOf the thing that words begin with.
func sizeOf(words []api.Word) int {
	switch words[0].Kind {
	case api.Pair:
		return 3
	case api.Box:
		return 2
	case api.Closure:
		return 2 + words[1].N
	}
	return 3 + words[2].N // a Record, or a Moved
}
