package serve_test

import (
	"slices"

	"graftery/api"
	"graftery/code"
	"graftery/graft"
	"graftery/heap"
	"graftery/read"
	"graftery/serve"
	"graftery/unit"
	"graftery/vm"
)

// byLayers: an act of a world, as P7.1 and P7.2 put it together of the layers
// ahead, word by word.
func byLayers(w api.World, a api.Act) (api.World, api.Answer) {
	n, text, e := api.World{}, "", api.ErrKind
	switch a.Kind {
	case api.Update:
		n, e = updateByLayers(w, a.Source)
	case api.Request:
		n, text, e = requestByLayers(w, a)
	case api.Collect:
		n, e = collectByLayers(w), api.OK
	}
	if e != api.OK {
		return w, api.Answer{Code: e}
	}
	return n, api.Answer{Text: text}
}

func updateByLayers(w api.World, s string) (api.World, api.Errno) {
	l, _, e := read.Read(s)
	if e != api.OK {
		return api.World{}, e
	}
	v, _ := graft.Env(w)
	u, _, e := unit.Form(l, v)
	if e != api.OK {
		return api.World{}, e
	}
	return graft.Graft(w, u)
}

func requestByLayers(w api.World, a api.Act) (api.World, string, api.Errno) {
	if !slices.ContainsFunc(w.Globs, func(g api.Glob) bool { return g.Name == a.Name }) {
		return api.World{}, "", api.ErrNone
	}
	if len(a.Data) > api.MaxArgs {
		return api.World{}, "", api.ErrCount
	}
	x := api.Expr{Kind: api.Call, Args: []api.Expr{{Kind: api.Global, S: a.Name}}}
	for _, d := range a.Data {
		if e := read.Check(d); e != api.OK {
			return api.World{}, "", e
		}
		x.Args = append(x.Args, api.Expr{Kind: api.Const, Datum: d})
	}
	l, e := code.Compile(x, len(w.Funcs))
	if e != api.OK {
		return api.World{}, "", e
	}
	w, v, e := vm.Run(w, l[0], a.Fuel)
	if e != api.OK {
		return api.World{}, "", e
	}
	return serve.Show(w, v)
}

func collectByLayers(w api.World) api.World {
	w = vm.Copy(w)
	var roots []api.Word
	for _, g := range w.Globs {
		roots = append(roots, g.Value)
	}
	w.Heap, roots, _ = heap.Collect(w.Heap, roots)
	for i, x := range roots {
		w.Globs[i].Value = x
	}
	return w
}
