package heap_test

import (
	"math"
	"testing"

	"graftery/api"
	"graftery/heap"
)

func moves(t *testing.T, h api.Heap, a, b int, want api.Heap) {
	t.Helper()
	may(t, h, true)
	g, e := heap.Move(h, a, b)
	if e != api.OK || !same(g, want) {
		t.Errorf("%d to %d on %v: %v, %v, want %v", a, b, h, g, e, want)
	}
	may(t, g, true)
}

func movesNot(t *testing.T, h api.Heap, a, b int, want api.Errno) {
	t.Helper()
	may(t, h, true)
	if g, e := heap.Move(h, a, b); e != want || !isZero(g) {
		t.Errorf("%d to %d on %v: %v, %v, want %v", a, b, h, g, e, want)
	}
}

func TestP39Move(t *testing.T) {
	one, two := record(1, 5, num(7), ref(0)), record(2, 0)
	h := heapOf(50, one, two)
	moves(t, h, 0, 5, heapOf(50, moved(5, null(), null()), two))
	moves(t, h, 5, 0, heapOf(50, one, moved(0)))
	// of any record to any other one
	most := record(7, 19, sym("a"), num(1), num(2), num(3), num(4), truth(1))
	moves(t, heapOf(50, most, most), 0, 9, heapOf(50, moved(9, nils(6)...), most))
	moves(t, heapOf(50, most, most), 9, 0, heapOf(50, most, moved(0, nils(6)...)))
	// what is between and around stays
	h = heapOf(50, box(ref(2)), record(0, 0, num(1)), pair(ref(2), ref(9)), record(0, 1, ref(2)), box(ref(9)))
	moves(t, h, 2, 9, heapOf(50, box(ref(2)), moved(9, null()), pair(ref(2), ref(9)), record(0, 1, ref(2)), box(ref(9))))
}

// It is found, brought and looked at where it was moved to.
func TestP39IsTheOther(t *testing.T) {
	h := heapOf(50, record(0, 0, num(1)), record(0, 1, num(2), ref(0)), box(ref(0)))
	g, e := heap.Move(h, 0, 4)
	if e != api.OK {
		t.Fatal(e)
	}
	finds(t, g, ref(0), ref(4))
	if w, e := heap.Part(g, ref(0), 1); e != api.OK || w != ref(0) {
		t.Error(w, e)
	}
	collects(t, g, words(ref(9)), heapOf(50, box(ref(2)), record(0, 1, num(2), ref(2))), words(ref(0)))
}

func TestP39Kinds(t *testing.T) {
	h := heapOf(60, record(0, 0, null()), box(null()), pair(null(), null()), closure(0), moved(14), record(0, 1), record(1, 0))
	moves(t, h, 0, 17, heapOf(60, moved(17, null()), box(null()), pair(null(), null()), closure(0), moved(14), record(0, 1), record(1, 0)))
	for _, n := range []int{-1, 1, 2, 3, 4, 5, 6, 9, 10, 11, 12, 15, 20, 60, math.MaxInt, math.MinInt} {
		movesNot(t, h, 0, n, api.ErrKind)
		movesNot(t, h, n, 0, api.ErrKind)
		movesNot(t, h, n, n, api.ErrKind)
	}
	for _, n := range []int{0, 14, 17} {
		movesNot(t, h, n, n, api.ErrKind)
	}
	movesNot(t, api.Heap{Limit: 50}, 0, 0, api.ErrKind)
	movesNot(t, api.Heap{Limit: 50}, 0, 1, api.ErrKind)
}

// A Moved may be one to a Moved behind it only.
func TestP39WhatMayNotBeThen(t *testing.T) {
	h := heapOf(50, record(0, 0), moved(0), record(0, 1), record(0, 2))
	movesNot(t, h, 0, 6, api.ErrForm)
	movesNot(t, h, 0, 9, api.ErrForm)
	moves(t, h, 6, 0, heapOf(50, record(0, 0), moved(0), moved(0), record(0, 2)))
	moves(t, h, 6, 9, heapOf(50, record(0, 0), moved(0), moved(9), record(0, 2)))
	movesNot(t, h, 0, 0, api.ErrKind) // ahead of that
	movesNot(t, h, 0, 3, api.ErrKind)
	h = heapOf(50, moved(3), record(0, 0), record(0, 1))
	moves(t, h, 3, 6, heapOf(50, moved(3), moved(6), record(0, 1)))
	moves(t, h, 6, 3, heapOf(50, moved(3), record(0, 0), moved(3)))
}
