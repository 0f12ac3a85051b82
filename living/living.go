// Package living: what lives in a world.
package living

import (
	"graftery/api"
	"graftery/heap"
	"graftery/vm"
)

// Collected: a world with nothing on its heap but what the values of its globals reach.
func Collected(w api.World) (api.World, api.Errno) {
	w = vm.Copy(w)
	var roots []api.Word
	for _, g := range w.Globs {
		roots = append(roots, g.Value)
	}
	h, roots, e := heap.Collect(w.Heap, roots)
	if e != api.OK {
		return api.World{}, e
	}
	w.Heap = h
	for i, x := range roots {
		w.Globs[i].Value = x
	}
	return w, api.OK
}
