package graft

import (
	"slices"

	"graftery/api"
	"graftery/code"
	"graftery/vm"
)

// addGlobals that the world has not.
func (g *grafter) addGlobals() api.Errno {
	for _, d := range g.unit.Defs {
		if g.global(d.Name) < 0 {
			g.world.Globs = append(g.world.Globs, api.Glob{Name: d.Name, Value: api.Word{Kind: api.Nil}})
		}
	}
	if len(g.world.Globs) > api.MaxGlobs {
		return api.ErrSize
	}
	return api.OK
}

// compileAll definitions, but those of values that are there. Functions of
// upgrades may be too many already.
func (g *grafter) compileAll() api.Errno {
	there := globalsOf(g.world)
	for _, d := range g.unit.Defs {
		if d.Expr.Kind != api.Lambda && g.global(d.Name) >= 0 {
			continue
		}
		if e := g.compile(d.Expr, there(d.Name)); e != api.OK {
			return e
		}
	}
	if len(g.world.Funcs) > api.MaxFuncs {
		return api.ErrSize
	}
	return api.OK
}

// compile the expression of the global at a place.
func (g *grafter) compile(x api.Expr, global int) api.Errno {
	first := len(g.world.Funcs)
	if first >= api.MaxFuncs {
		return api.ErrSize
	}
	l, e := code.Compile(x, first)
	if e != api.OK {
		return e
	}
	g.world.Funcs = append(g.world.Funcs, l...)
	g.made = append(g.made, definition{x, global, first})
	return api.OK
}

// checkNames: is there all that the expressions name that were compiled?
func (g *grafter) checkNames() api.Errno {
	n := names{globalsOf(g.world), recordsOf(g.world)}
	if slices.ContainsFunc(g.made, func(d definition) bool { return n.miss(d.expr) }) {
		return api.ErrNone
	}
	return api.OK
}

// names that are there.
type names struct {
	global func(name string) int
	record func(name string) int
}

// miss: does an expression name anything that is not there?
func (n names) miss(x api.Expr) bool {
	switch x.Kind {
	case api.Global:
		return n.global(x.S) < 0
	case api.Set:
		if x.N == 0 && n.global(x.S) < 0 {
			return true
		}
	case api.Make, api.Is, api.Get, api.Put:
		if n.record(x.S) < 0 {
			return true
		}
	}
	return slices.ContainsFunc(x.Args, n.miss)
}

// putClosures: those of definitions that are Lambdas.
func (g *grafter) putClosures() api.Errno {
	return g.assignAll(true, func(d definition) (api.World, api.Word, api.Errno) {
		front := []api.Word{{Kind: api.Closure, N: d.function}, {Kind: api.Int}}
		return vm.Put(g.world, front, nil)
	})
}

// runValues: the definitions that are no Lambdas.
func (g *grafter) runValues() api.Errno {
	return g.assignAll(false, func(d definition) (api.World, api.Word, api.Errno) {
		return vm.Run(g.world, g.world.Funcs[d.function], api.MaxFuel)
	})
}

// assignAll: the globals of all definitions that are Lambdas, or of all that
// are none, have what is told of these, one by one.
func (g *grafter) assignAll(lambdas bool, told func(definition) (api.World, api.Word, api.Errno)) api.Errno {
	for _, d := range g.made {
		if (d.expr.Kind == api.Lambda) != lambdas {
			continue
		}
		w, x, e := told(d)
		if e != api.OK {
			return e
		}
		g.world = w
		g.world.Globs[d.global].Value = x
	}
	return api.OK
}
