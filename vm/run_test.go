package vm_test

import (
	"math"
	"slices"
	"testing"

	"graftery/api"
	"graftery/vm"
)

func TestP414Run(t *testing.T) {
	w := calls(function(2, local(1)), function(0, constant(null())))
	tells(t, w, of(vm.Run(w, function(0, constant(num(3))), 1)), num(3), w.Globs, w.Heap)
	tells(t, w, of(vm.Run(w, with(function(0, local(39)), 40, 0), 1)), null(), w.Globs, w.Heap)
	for _, fuel := range []int{-1, 20001, math.MaxInt, math.MinInt} {
		refuses(t, of(vm.Run(w, function(0, constant(num(3))), fuel)), api.ErrRange)
		refuses(t, of(vm.Run(w, api.Func{}, fuel)), api.ErrRange)
	}
	refuses(t, of(vm.Run(w, function(0, constant(num(3))), 0)), api.ErrFuel)
	tells(t, w, of(vm.Run(w, function(0, constant(num(3))), 20000)), num(3), w.Globs, w.Heap)
	// it is one more than there may be, as long as it runs
	w = calls(slices.Repeat([]api.Func{function(0, constant(num(4)))}, 2000)...)
	tells(t, w, of(vm.Run(w, function(0, global("x"), call(0)), 2)), num(4), w.Globs, w.Heap)
	tells(t, w, of(vm.Run(w, function(0, closed(1999, 0), call(0)), 2)), num(4), w.Globs, heapOf(60, w.Heap.Words, closure(1999)))
}

func TestP414Forms(t *testing.T) {
	w := calls(function(2, local(1)), function(0, constant(null())))
	for _, f := range []api.Func{
		{},
		{Code: code(constant(null()), ret)},
		{Code: code(tick, ret)},
		function(1, local(0)),
		with(function(0, constant(null())), 0, 1),
		with(function(0, capt(0)), 0, 1),
		with(function(0, constant(null())), 41, 0),
		function(0, global("z")),
		function(0, is("z")),
		function(0, constant(ref(0))),
		function(0, closed(0, 1)),
		function(0, closed(3, 0)),
		function(0, closed(2, 0)), // with the functions of the world: it is none
	} {
		refuses(t, of(vm.Run(w, f, 0)), api.ErrForm)
		refuses(t, of(vm.Run(w, f, 1)), api.ErrForm)
	}
	tells(t, w, of(vm.Run(w, function(0, closed(1, 0)), 1)), ref(12), w.Globs, heapOf(60, w.Heap.Words, closure(1)))
}
