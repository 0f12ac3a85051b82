package graft_test

import (
	"testing"

	"graftery/api"
	"graftery/graft"
)

func TestP61Env(t *testing.T) {
	for _, c := range []struct {
		sources []string
		want    api.Env
	}{
		{nil, api.Env{}},
		{[]string{"(define x 1)"}, api.Env{Globals: []string{"x"}}},
		{[]string{"(record p a) (record q)", "(define y 1) (define (x) y) (record r c)"}, api.Env{Globals: []string{"y", "x"}, Shapes: []api.Shape{shape("p", "a"), shape("q"), shape("r", "c")}}},
		{[]string{"(record p a) (record q)", "(record q b a) (upgrade q 1 2) (record p a)"}, api.Env{Shapes: []api.Shape{shape("p", "a"), shape("q", "b", "a")}}},
		{[]string{"(record p a) (define x (p 1))", "(record p a b) (upgrade p (was a) 0)", "(record p c) (upgrade p (was b))"}, api.Env{Globals: []string{"x"}, Shapes: []api.Shape{shape("p", "c")}}},
		{[]string{"(record p a)", "(record p) (upgrade p)"}, api.Env{Shapes: []api.Shape{shape("p")}}},
	} {
		v, e := graft.Env(grow(t, empty(200), c.sources...))
		if e != api.OK || !alike(v, c.want) {
			t.Errorf("%s: %v, %v, want %v", c.sources, v, e, c.want)
		}
	}
}

// wrongWorlds: each one is wrong in a way of its own.
func wrongWorlds(t *testing.T) []api.World {
	w := grow(t, empty(200), "(record p a) (define x (p 1)) (define (f n) n)", "(record p b) (upgrade p (was a))")
	var l []api.World
	for _, change := range []func(w *api.World){
		func(w *api.World) { w.Heap.Limit = api.MinHeap - 1 },
		func(w *api.World) { w.Heap.Words = w.Heap.Words[1:] },
		func(w *api.World) { w.Globs[1].Name = "x" },
		func(w *api.World) { w.Globs[1].Name = "car" },
		func(w *api.World) { w.Globs[0].Value = ref(1) },
		func(w *api.World) { w.Recs[0].Vers = nil },
		func(w *api.World) { w.Recs[0].Moves = nil },
		func(w *api.World) { w.Recs = append(w.Recs, w.Recs...) },
		func(w *api.World) { w.Funcs = nil },
		func(w *api.World) { w.Funcs[0].Code = nil },
	} {
		n := grafted(t, w, api.Unit{})
		change(&n)
		l = append(l, n)
	}
	return append(l, api.World{})
}

func TestP61WrongWorlds(t *testing.T) {
	for _, w := range wrongWorlds(t) {
		if v, e := graft.Env(w); e != api.ErrState || !alike(v, api.Env{}) {
			t.Errorf("%v: %v, %v", w, v, e)
		}
		refuses(t, w, api.Unit{}, api.ErrState)
		refuses(t, w, unitOf(shape("if")), api.ErrState) // ahead of all else
		refuses(t, w, unitOf(def("g", constant(1))), api.ErrState)
	}
}
