package vm_test

import (
	"fmt"
	"reflect"
	"slices"
	"strconv"
	"strings"
	"testing"

	"graftery/api"
	"graftery/vm"
)

func num(n int) api.Word    { return api.Word{Kind: api.Int, N: n} }
func truth(n int) api.Word  { return api.Word{Kind: api.Bool, N: n} }
func null() api.Word        { return api.Word{Kind: api.Nil} }
func sym(s string) api.Word { return api.Word{Kind: api.Sym, S: s} }
func ref(n int) api.Word    { return api.Word{Kind: api.Ref, N: n} }

func words(l ...api.Word) []api.Word { return l }

func pair(a, b api.Word) []api.Word { return words(api.Word{Kind: api.Pair}, a, b) }
func box(a api.Word) []api.Word     { return words(api.Word{Kind: api.Box}, a) }

func closure(n int, l ...api.Word) []api.Word {
	return append(words(api.Word{Kind: api.Closure, N: n}, num(len(l))), l...)
}

func record(n, version int, l ...api.Word) []api.Word {
	return append(words(api.Word{Kind: api.Record, N: n}, num(version), num(len(l))), l...)
}

func moved(to int, l ...api.Word) []api.Word {
	return append(words(api.Word{Kind: api.Moved, N: to}, num(0), num(len(l))), l...)
}

// heapOf things, one behind the other.
func heapOf(limit int, things ...[]api.Word) api.Heap {
	return api.Heap{Words: slices.Concat(things...), Limit: limit}
}

func long(n int) string { return strings.Repeat("x", n) }

func text(n int) string { return strconv.Itoa(n) }

// Instructions.
var (
	tick   = api.Instr{Op: api.OTick}
	ret    = api.Instr{Op: api.OReturn}
	pop    = api.Instr{Op: api.OPop}
	boxed  = api.Instr{Op: api.OBox}
	opened = api.Instr{Op: api.OOpen}
	filled = api.Instr{Op: api.OFill}
)

func constant(w api.Word) api.Instr { return api.Instr{Op: api.OConst, W: w} }
func local(n int) api.Instr         { return api.Instr{Op: api.OLocal, A: n} }
func store(n int) api.Instr         { return api.Instr{Op: api.OStore, A: n} }
func capt(n int) api.Instr          { return api.Instr{Op: api.OCapt, A: n} }
func global(s string) api.Instr     { return api.Instr{Op: api.OGlobal, S: s} }
func assign(s string) api.Instr     { return api.Instr{Op: api.OAssign, S: s} }
func closed(a, b int) api.Instr     { return api.Instr{Op: api.OClose, A: a, B: b} }
func call(n int) api.Instr          { return api.Instr{Op: api.OCall, A: n} }
func tail(n int) api.Instr          { return api.Instr{Op: api.OTail, A: n} }
func jump(n int) api.Instr          { return api.Instr{Op: api.OJump, A: n} }
func orElse(n int) api.Instr        { return api.Instr{Op: api.OElse, A: n} }
func makes(s string, n int) api.Instr {
	return api.Instr{Op: api.OMake, S: s, A: n}
}
func is(s string) api.Instr     { return api.Instr{Op: api.OIs, S: s} }
func get(s, t string) api.Instr { return api.Instr{Op: api.OGet, S: s, T: t} }
func put(s, t string) api.Instr { return api.Instr{Op: api.OPut, S: s, T: t} }

// prim: a primitive, with as many arguments as it has.
func prim(s string) api.Instr {
	n := 2
	if strings.Contains(" car cdr null? pair? not error ", " "+s+" ") {
		n = 1
	}
	return api.Instr{Op: api.OPrim, S: s, A: n}
}

func code(l ...api.Instr) []api.Instr { return l }

// function of some params that tells what its instructions leave on top; they
// stand between an OTick and an OReturn.
func function(params int, l ...api.Instr) api.Func {
	return api.Func{Params: params, Locals: params, Code: slices.Concat(code(tick), l, code(ret))}
}

// with: a function, but that one of its numbers is another.
func with(f api.Func, locals, capts int) api.Func {
	f.Locals, f.Capts = locals, capts
	return f
}

func glob(name string, w api.Word) api.Glob { return api.Glob{Name: name, Value: w} }

func shape(name string, fields ...string) api.Shape { return api.Shape{Name: name, Fields: fields} }

// rec: a record of one version.
func rec(name string, fields ...string) api.Rec {
	return api.Rec{Name: name, Vers: []api.Shape{shape(name, fields...)}}
}

// then: a version more of a record, and the functions that make its fields.
func then(r api.Rec, fields []string, moves ...int) api.Rec {
	r.Vers = append(slices.Clone(r.Vers), shape(r.Name, fields...))
	r.Moves = append(slices.Clone(r.Moves), moves)
	return r
}

// world with an empty heap of the least limit.
func world(globs []api.Glob, recs []api.Rec, funcs ...api.Func) api.World {
	return api.World{Funcs: funcs, Globs: globs, Recs: recs, Heap: api.Heap{Limit: api.MinHeap}}
}

// on a heap: the world, but that it has this one.
func on(w api.World, h api.Heap) api.World {
	w.Heap = h
	return w
}

// globals of two names.
func globals(x, y api.Word) []api.Glob { return []api.Glob{glob("x", x), glob("y", y)} }

// same worlds, whether lists without elements are nil or not.
func same(a, b api.World) bool { return reflect.DeepEqual(plain(a), plain(b)) }

// plain: a world in new memory in which no list without elements is nil.
func plain(w api.World) api.World {
	c := api.World{Funcs: []api.Func{}, Globs: append([]api.Glob{}, w.Globs...), Recs: []api.Rec{}, Heap: w.Heap}
	c.Heap.Words = append([]api.Word{}, w.Heap.Words...)
	for _, f := range w.Funcs {
		f.Code = append([]api.Instr{}, f.Code...)
		c.Funcs = append(c.Funcs, f)
	}
	for _, r := range w.Recs {
		n := api.Rec{Name: r.Name, Vers: []api.Shape{}, Moves: [][]int{}}
		for _, s := range r.Vers {
			n.Vers = append(n.Vers, api.Shape{Name: s.Name, Fields: append([]string{}, s.Fields...)})
		}
		for _, l := range r.Moves {
			n.Moves = append(n.Moves, append([]int{}, l...))
		}
		c.Recs = append(c.Recs, n)
	}
	return c
}

func isZero(w api.World) bool { return same(w, api.World{}) }

// outcome of a call.
type outcome struct {
	world api.World
	value api.Word
	code  api.Errno
}

func of(w api.World, x api.Word, e api.Errno) outcome { return outcome{w, x, e} }

// tells: the call is not refused: what it tells, and the values of globals and
// the heap behind it; all else is as it was.
func tells(t *testing.T, before api.World, o outcome, value api.Word, globs []api.Glob, h api.Heap) {
	t.Helper()
	want := before
	want.Globs, want.Heap = globs, h
	if o.code != api.OK || o.value != value || !same(o.world, want) {
		t.Errorf("%v %v %v %v,\nwant %v %v %v", o.code, o.value, o.world.Globs, o.world.Heap, value, globs, h)
	}
	if o.code == api.OK && vm.Check(o.world) != api.OK {
		t.Errorf("the world may not be: %v", o.world)
	}
}

// refuses: the call is refused, and tells nothing else.
func refuses(t *testing.T, o outcome, want api.Errno) {
	t.Helper()
	if o.code != want || o.value != (api.Word{}) || !isZero(o.world) {
		t.Errorf("%v, want %v; %v %v", o.code, want, o.value, o.world.Heap)
	}
}

// runs a body in a world, with enough fuel.
func runs(w api.World, l ...api.Instr) outcome { return runsWith(w, 0, l...) }

// runsWith so many locals.
func runsWith(w api.World, locals int, l ...api.Instr) outcome {
	return of(vm.Run(w, with(function(0, l...), locals, 0), api.MaxFuel))
}

// short: a world as text that does not fill the screen.
func short(w api.World) string {
	s := fmt.Sprint(w)
	return s[:min(len(s), 1000)]
}

// may: the world may be, or it may not.
func may(t *testing.T, w api.World, want bool) {
	t.Helper()
	e := vm.Check(w)
	if want && e != api.OK || !want && e != api.ErrState {
		t.Errorf("%s: %v, want %v", short(w), e, want)
	}
}
