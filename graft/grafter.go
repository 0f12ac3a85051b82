package graft

import (
	"graftery/api"
	"graftery/vm"
)

// grafter of a unit on a world. What is known by name is found by closures:
// its place, or -1, if there is none.
type grafter struct {
	world   api.World // as it is by now, in memory of its own
	unit    api.Unit
	global  func(name string) int // of the world that was handed in
	record  func(name string) int // of that, too
	shape   func(name string) int // of the unit
	def     func(name string) int
	upgrade func(name string) int
	moves   []int // by upgrades: the place of the function of its first expression
	made    []definition
}

// definition that was compiled.
type definition struct {
	expr     api.Expr
	global   int // its place
	function int // that of its first function
}

func newGrafter(w api.World, u api.Unit) *grafter {
	return &grafter{
		world:   vm.Copy(w),
		unit:    u,
		global:  globalsOf(w),
		record:  recordsOf(w),
		shape:   finder(u.Shapes, func(s api.Shape) string { return s.Name }),
		def:     finder(u.Defs, func(d api.Def) string { return d.Name }),
		upgrade: finder(u.Upgrades, func(p api.Upgrade) string { return p.Name }),
	}
}

// finder finds the first one, of some, that has a name.
func finder[T any](l []T, nameOf func(T) string) func(name string) int {
	places := make(map[string]int, len(l))
	for i, x := range l {
		if _, ok := places[nameOf(x)]; !ok {
			places[nameOf(x)] = i
		}
	}
	return func(name string) int {
		if i, ok := places[name]; ok {
			return i
		}
		return -1
	}
}

func globalsOf(w api.World) func(name string) int {
	return finder(w.Globs, func(g api.Glob) string { return g.Name })
}

func recordsOf(w api.World) func(name string) int {
	return finder(w.Recs, func(r api.Rec) string { return r.Name })
}
