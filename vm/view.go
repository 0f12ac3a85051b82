package vm

import (
	"slices"

	"graftery/api"
	"graftery/heap"
	"graftery/unit"
)

// view of a world: what it has is found by closures.
type view struct {
	world      api.World
	global     func(name string) (int, bool) // its place
	record     func(name string) (int, bool)
	isValue    func(w api.Word) bool // on the heap
	primitives map[string]primitive
}

// newView of a world; ErrState, if that may not be.
func newView(w api.World) (view, api.Errno) {
	if heap.Check(w.Heap) != api.OK || len(w.Funcs) > api.MaxFuncs || len(w.Globs) > api.MaxGlobs || len(w.Recs) > api.MaxRecs {
		return view{}, api.ErrState
	}
	v := view{
		world:      w,
		global:     finder(w.Globs, func(g api.Glob) string { return g.Name }),
		record:     finder(w.Recs, func(r api.Rec) string { return r.Name }),
		isValue:    valuesOn(w.Heap.Words),
		primitives: newPrimitives(),
	}
	if !v.mayBe() {
		return view{}, api.ErrState
	}
	return v, api.OK
}

// finder finds the place of what has a name, among some.
func finder[T any](l []T, nameOf func(T) string) func(string) (int, bool) {
	places := make(map[string]int, len(l))
	for i, x := range l {
		places[nameOf(x)] = i
	}
	return func(name string) (int, bool) {
		i, ok := places[name]
		return i, ok
	}
}

// valuesOn a heap that may be: is a word one of them?
func valuesOn(words []api.Word) func(api.Word) bool {
	begins := make([]bool, len(words))
	for at := range things(words) {
		begins[at] = true
	}
	return func(w api.Word) bool {
		if w.Kind == api.Ref {
			return isBelow(w.N, len(begins)) && begins[w.N] && w.S == ""
		}
		return isPlain(w)
	}
}

// isPlain: is a word a value, and no Ref? On a heap without things none is.
func isPlain(w api.Word) bool {
	return heap.CheckValue(api.Heap{Limit: api.MinHeap}, w) == api.OK
}

func (v view) areValues(l []api.Word) bool {
	return !slices.ContainsFunc(l, func(w api.Word) bool { return !v.isValue(w) })
}

// mayBe: may the world be, whose heap may, with no more of anything than it
// may have?
func (v view) mayBe() bool {
	noFunc := func(f api.Func) bool { return !v.mayBeFunc(f) }
	noRec := func(r api.Rec) bool { return !v.mayBeRec(r) }
	noValue := func(g api.Glob) bool { return !v.isValue(g.Value) }
	if slices.ContainsFunc(v.world.Funcs, noFunc) || slices.ContainsFunc(v.world.Recs, noRec) || !v.areNamesRight() || slices.ContainsFunc(v.world.Globs, noValue) {
		return false
	}
	for at := range things(v.world.Heap.Words) {
		if !v.mayStand(v.world.Heap.Words, at) {
			return false
		}
	}
	return true
}

// areNamesRight: are those of globals, and of records that may be, free and
// unlike?
func (v view) areNamesRight() bool {
	var known api.Env
	for _, g := range v.world.Globs {
		known.Globals = append(known.Globals, g.Name)
	}
	for _, r := range v.world.Recs {
		known.Shapes = append(known.Shapes, r.Vers[0])
	}
	return unit.Check(known) == api.OK
}

// mayStand: may a thing that begins at a place stand on the world's heap?
func (v view) mayStand(words []api.Word, at int) bool {
	first, end := sides(words, at)
	n := words[at].N
	switch words[at].Kind {
	case api.Closure:
		return n < len(v.world.Funcs) && end-first == v.world.Funcs[n].Capts
	case api.Record:
		if n >= len(v.world.Recs) {
			return false
		}
		version := words[at+1].N
		versions := v.world.Recs[n].Vers
		return version < len(versions) && end-first == len(versions[version].Fields)
	}
	return true
}

func (v view) mayBeRec(r api.Rec) bool {
	if !isBelow(len(r.Vers)-1, api.MaxVers) || len(r.Moves) != len(r.Vers)-1 {
		return false
	}
	for i, s := range r.Vers {
		if s.Name != r.Name || unit.CheckShape(s) != api.OK || i > 0 && !v.mayBeMoves(r.Moves[i-1], r.Vers[i-1], s) {
			return false
		}
	}
	return true
}

// mayBeMoves: has each field of a version the place of a function that can
// make it of those of the version ahead?
func (v view) mayBeMoves(places []int, old, now api.Shape) bool {
	if len(places) != len(now.Fields) {
		return false
	}
	for _, i := range places {
		if !isBelow(i, len(v.world.Funcs)) {
			return false
		}
		f := v.world.Funcs[i]
		if f.Params != len(old.Fields) || f.Capts != 0 || slices.ContainsFunc(f.Code, isNotInMove) {
			return false
		}
	}
	return true
}

// isNotInMove: is an instruction one that no move may have? (The functions of
// the world may be: there is such an operator.)
func isNotInMove(in api.Instr) bool { return !effects[in.Op].inMove }

func (v view) mayBeFunc(f api.Func) bool {
	if !isBelow(f.Params, api.MaxArgs+1) || f.Locals < f.Params || f.Locals > api.MaxLocals || !isBelow(f.Capts, api.MaxLocals+1) {
		return false
	}
	if !isBelow(len(f.Code)-1, api.MaxCode) || f.Code[0].Op != api.OTick {
		return false
	}
	for _, in := range f.Code {
		if !v.mayBeInstr(in, f) {
			return false
		}
	}
	y := ways{code: f.Code}
	return y.hold()
}

// mayBeInstr: is an instruction as it must be, in a function?
func (v view) mayBeInstr(in api.Instr, f api.Func) bool {
	switch in.Op {
	case api.OTick, api.OBox, api.OOpen, api.OFill, api.OReturn, api.OPop:
		return true
	case api.OConst:
		return isPlain(in.W)
	case api.OLocal, api.OStore:
		return isBelow(in.A, f.Locals)
	case api.OCapt:
		return isBelow(in.A, f.Capts)
	case api.OGlobal, api.OAssign:
		_, ok := v.global(in.S)
		return ok
	case api.OClose:
		return isBelow(in.A, len(v.world.Funcs)) && in.B == v.world.Funcs[in.A].Capts
	case api.OCall, api.OTail:
		return isBelow(in.A, api.MaxArgs+1)
	case api.OJump, api.OElse:
		return isBelow(in.A, len(f.Code))
	case api.OPrim:
		p, ok := v.primitives[in.S]
		return ok && in.A == p.args
	case api.OMake, api.OIs, api.OGet, api.OPut:
		_, ok := v.record(in.S)
		return ok && (in.Op != api.OMake || isBelow(in.A, api.MaxFields+1))
	}
	return false
}
