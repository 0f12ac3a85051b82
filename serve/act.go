package serve

import (
	"slices"

	"graftery/api"
	"graftery/code"
	"graftery/graft"
	"graftery/living"
	"graftery/read"
	"graftery/unit"
	"graftery/vm"
)

// do an act in a world: the world behind it, and what it tells.
func do(w api.World, a api.Act) (api.World, string, api.Errno) {
	switch a.Kind {
	case api.Update:
		w, e := update(w, a.Source)
		return w, "", e
	case api.Request:
		return request(w, a)
	case api.Collect:
		w, e := living.Collected(w)
		return w, "", e
	}
	return api.World{}, "", api.ErrKind
}

// update a world by a source.
func update(w api.World, source string) (api.World, api.Errno) {
	l, _, e := read.Read(source)
	if e != api.OK {
		return api.World{}, e
	}
	known, e := graft.Env(w)
	if e != api.OK {
		return api.World{}, e
	}
	u, _, e := unit.Form(l, known)
	if e != api.OK {
		return api.World{}, e
	}
	now, e := graft.Graft(w, u)
	if e != api.OK && len(u.Upgrades) > 0 && isBehind(w) {
		return graftSettled(w, u, e)
	}
	return now, e
}

// isBehind: is there a record that has not the version that is now? No value
// is a word of the kind Record: such a word begins one.
func isBehind(w api.World) bool {
	for at, x := range w.Heap.Words {
		if x.Kind == api.Record && w.Heap.Words[at+1].N < len(w.Recs[x.N].Vers)-1 {
			return true
		}
	}
	return false
}

// graftSettled: a unit with upgrades that was refused. What was tried may be a
// record that only a field of an old version still has, one that the next
// version dropped: had all been brought up at once, it would be gone. So what
// is told of a world in which all are brought up counts, if there is room for
// that.
func graftSettled(w api.World, u api.Unit, refused api.Errno) (api.World, api.Errno) {
	w, _, e := vm.Settle(w, api.Word{Kind: api.Nil})
	if e == api.OK {
		w, e = graft.Graft(w, u)
	}
	if e == api.ErrRoom {
		return api.World{}, refused
	}
	return w, e
}

// request of a world: the value that is told, shown.
func request(w api.World, a api.Act) (api.World, string, api.Errno) {
	x, e := callOf(w, a)
	if e != api.OK {
		return api.World{}, "", e
	}
	l, e := code.Compile(x, len(w.Funcs))
	if e != api.OK {
		return api.World{}, "", e
	}
	w, v, e := vm.Run(w, l[0], a.Fuel)
	if e != api.OK {
		return api.World{}, "", e
	}
	return Show(w, v)
}

// callOf what a request names, with what it has.
func callOf(w api.World, a api.Act) (api.Expr, api.Errno) {
	isNamed := func(g api.Glob) bool { return g.Name == a.Name }
	switch {
	case !slices.ContainsFunc(w.Globs, isNamed):
		return api.Expr{}, api.ErrNone
	case len(a.Data) > api.MaxArgs:
		return api.Expr{}, api.ErrCount
	}
	x := api.Expr{Kind: api.Call, Args: []api.Expr{{Kind: api.Global, S: a.Name}}}
	items := 0
	for _, d := range a.Data {
		if e := read.Check(d); e != api.OK {
			return api.Expr{}, e
		}
		items += count(d)
		if items > api.MaxItems {
			return api.Expr{}, api.ErrSize
		}
		x.Args = append(x.Args, api.Expr{Kind: api.Const, Datum: d})
	}
	return x, api.OK
}

// count a datum, and all that are in it.
func count(d api.Datum) int {
	n := 1
	for _, x := range d.Items {
		n += count(x)
	}
	return n
}
