package vm_test

import (
	"math"
	"slices"
	"testing"

	"graftery/api"
	"graftery/vm"
)

// calls: a world whose global x has a closure of the first function; a second
// one is at 2, and a record that was moved at 4.
func calls(f ...api.Func) api.World {
	w := world(globals(ref(0), null()), []api.Rec{rec("p", "a")}, f...)
	return on(w, heapOf(60, closure(0), closure(1), moved(8, null()), record(0, 0, num(7))))
}

func TestP46Call(t *testing.T) {
	w := calls(function(2, local(1)), function(0, constant(sym("b"))))
	may(t, w, true)
	tells(t, w, of(vm.Call(w, ref(0), words(num(1), num(2)), 1)), num(2), w.Globs, w.Heap)
	tells(t, w, of(vm.Call(w, ref(2), nil, 1)), sym("b"), w.Globs, w.Heap)
	// what was moved is told as it was handed in
	tells(t, w, of(vm.Call(w, ref(0), words(num(1), ref(4)), 1)), ref(4), w.Globs, w.Heap)
}

// Locals are the arguments, then Nils; of the stack there is nothing.
func TestP46Locals(t *testing.T) {
	for n := range 7 {
		args := words(num(0), num(1), num(2), num(3), num(4), num(5))[:n]
		for i := range 40 {
			if i >= n {
				args = args[:n:n]
			}
			w := calls(with(function(n, constant(num(99)), local(i)), 40, 0), function(0, constant(null())))
			want := null()
			if i < n {
				want = num(i)
			}
			tells(t, w, of(vm.Call(w, ref(0), args, 1)), want, w.Globs, w.Heap)
		}
	}
}

func TestP46Refuses(t *testing.T) {
	w := calls(function(2, local(1)), function(0, constant(null())))
	for _, fuel := range []int{-1, 20001, math.MaxInt, math.MinInt} {
		refuses(t, of(vm.Call(w, ref(0), words(num(1), num(2)), fuel)), api.ErrRange)
		refuses(t, of(vm.Call(w, ref(1), nil, fuel)), api.ErrRange)
	}
	tells(t, w, of(vm.Call(w, ref(0), words(num(1), num(2)), 20000)), num(2), w.Globs, w.Heap)
	refuses(t, of(vm.Call(w, ref(0), words(num(1), num(2)), 0)), api.ErrFuel)
	// no value on the heap
	for _, x := range words(ref(1), ref(12), ref(-1), ref(60), ref(math.MaxInt), ref(math.MinInt), api.Word{}, api.Word{Kind: api.Ref, S: "a"}, num(api.MaxInt+1), sym(""), api.Word{Kind: api.Closure}) {
		refuses(t, of(vm.Call(w, x, words(num(1), num(2)), 0)), api.ErrKind)
		refuses(t, of(vm.Call(w, ref(0), words(x, num(2)), 0)), api.ErrKind)
		refuses(t, of(vm.Call(w, ref(0), words(num(1), x), 0)), api.ErrKind)
		refuses(t, of(vm.Call(w, ref(0), words(num(1), num(2), x), 0)), api.ErrKind)
	}
	// no closure, with any arguments
	for _, x := range words(num(0), truth(0), null(), sym("x"), ref(4), ref(8)) {
		refuses(t, of(vm.Call(w, x, nil, 0)), api.ErrKind)
		refuses(t, of(vm.Call(w, x, words(num(1), num(2)), 0)), api.ErrKind)
	}
	for n := range 9 {
		if n != 2 {
			refuses(t, of(vm.Call(w, ref(0), words(slices.Repeat(words(num(1)), n)...), 0)), api.ErrCount)
		}
		if n != 0 {
			refuses(t, of(vm.Call(w, ref(2), slices.Repeat(words(num(1)), n), 0)), api.ErrCount)
		}
	}
}

// With any error nothing has changed.
func TestP46NothingHasChanged(t *testing.T) {
	w := calls(function(1, constant(num(5)), assign("y"), local(0), boxed, pop, local(0), prim("car")), function(0, constant(null())))
	before := vm.Copy(w)
	refuses(t, of(vm.Call(w, ref(0), words(num(1)), 9)), api.ErrKind)
	if !same(w, before) {
		t.Error(w)
	}
}

func TestP47Tick(t *testing.T) {
	w := world(nil, nil)
	for n := range 5 {
		l := append(slices.Repeat(code(tick), n), constant(num(n)))
		tells(t, w, of(vm.Run(w, function(0, l...), n+1)), num(n), nil, w.Heap)
		refuses(t, of(vm.Run(w, function(0, l...), n)), api.ErrFuel)
	}
	// only the ticks on the way count, and what is done ahead of them is done
	f := function(0, constant(truth(0)), orElse(5), tick, tick, constant(num(1)))
	tells(t, w, of(vm.Run(w, f, 1)), num(1), nil, w.Heap)
	refuses(t, of(vm.Run(w, function(0, constant(num(1)), prim("error"), tick), 1)), api.ErrRaise)
	refuses(t, of(vm.Run(w, function(0, constant(num(1)), tick, prim("error")), 1)), api.ErrFuel)
}

func TestP47Stack(t *testing.T) {
	w := world(globals(num(8), sym("b")), nil)
	tells(t, w, runs(w, constant(sym("a"))), sym("a"), w.Globs, w.Heap)
	tells(t, w, runs(w, constant(num(1)), constant(num(2)), pop), num(1), w.Globs, w.Heap)
	tells(t, w, runs(w, global("x")), num(8), w.Globs, w.Heap)
	tells(t, w, runs(w, global("y")), sym("b"), w.Globs, w.Heap)
	tells(t, w, runs(w, constant(num(3)), global("y"), assign("x")), num(3), globals(sym("b"), sym("b")), w.Heap)
	tells(t, w, runs(w, constant(num(3)), assign("y"), global("y"), constant(num(4)), assign("y")), num(3), globals(num(8), num(4)), w.Heap)
	tells(t, w, runsWith(w, 2, constant(num(1)), constant(num(2)), store(1), store(0), local(0), local(1), prim("-")), num(-1), w.Globs, w.Heap)
	tells(t, w, runsWith(w, 40, constant(num(1)), store(39), local(38), pop, local(39)), num(1), w.Globs, w.Heap)
}

func TestP47Ways(t *testing.T) {
	w := world(nil, nil)
	tells(t, w, runs(w, constant(num(1)), jump(4), prim("error")), num(1), nil, w.Heap)
	for _, c := range []struct {
		x    api.Word
		want int
	}{{truth(0), 2}, {truth(1), 1}, {num(0), 1}, {null(), 1}, {sym("a"), 1}} {
		tells(t, w, runs(w, constant(c.x), orElse(5), constant(num(1)), jump(6), constant(num(2))), num(c.want), nil, w.Heap)
	}
}

// The values of itself.
func TestP47Capt(t *testing.T) {
	w := world(nil, nil, with(function(0, capt(0), pop, capt(1)), 0, 2), with(function(0, capt(1), pop, capt(0)), 0, 2))
	w = on(w, heapOf(50, closure(0, num(1), sym("b")), closure(1, num(1), ref(0))))
	tells(t, w, of(vm.Call(w, ref(0), nil, 1)), sym("b"), nil, w.Heap)
	tells(t, w, of(vm.Call(w, ref(4), nil, 1)), num(1), nil, w.Heap)
	// of a call that called another, too
	w = world(globals(ref(0), ref(3)), nil, with(function(0, capt(0), global("y"), call(0), prim("-"), capt(0), prim("-")), 0, 1), with(function(0, capt(0)), 0, 1))
	w = on(w, heapOf(50, closure(0, num(100)), closure(1, num(1))))
	tells(t, w, of(vm.Call(w, ref(0), nil, 2)), num(-1), w.Globs, w.Heap)
}

func TestP47OCall(t *testing.T) {
	// x of two arguments tells their difference, and changes its own locals and stack only
	f := with(function(2, constant(num(9)), local(0), local(1), prim("-"), constant(null()), store(0)), 3, 0)
	w := calls(f, function(0, constant(sym("b"))))
	body := code(constant(num(1)), store(0), constant(num(50)), global("x"), constant(num(7)), constant(num(4)), call(2), prim("-"), local(0), prim("-"))
	tells(t, w, of(vm.Run(w, with(function(0, body...), 1, 0), 2)), num(46), w.Globs, w.Heap)
	refuses(t, of(vm.Run(w, with(function(0, body...), 1, 0), 1)), api.ErrFuel)
	// no arguments, and as many as there can be
	w = calls(function(0, constant(sym("a"))), function(6, local(5), local(0), prim("cons")))
	tells(t, w, runs(w, global("x"), call(0)), sym("a"), w.Globs, w.Heap)
	w.Globs = globals(ref(2), null())
	six := code(constant(num(1)), constant(num(2)), constant(num(3)), constant(num(4)), constant(num(5)), constant(num(6)))
	behind := heapOf(60, w.Heap.Words, pair(num(6), num(1)))
	tells(t, w, runs(w, slices.Concat(code(global("x")), six, code(call(6)))...), ref(12), w.Globs, behind)
	tells(t, w, of(vm.Run(w, api.Func{Code: slices.Concat(code(tick, global("x")), six, code(tail(6)))}, 9)), ref(12), w.Globs, behind)
}

func TestP47CallRefuses(t *testing.T) {
	w := calls(function(2, local(1)), function(0, constant(null())))
	for _, in := range []func(int) api.Instr{call, tail} {
		done := func(callee api.Instr, args int) outcome {
			return of(vm.Run(w, api.Func{Code: slices.Concat(code(tick, callee), slices.Repeat(code(constant(num(1))), args), code(in(args), ret))}, 1))
		}
		for _, x := range words(num(0), truth(0), null(), sym("x")) {
			refuses(t, done(constant(x), 0), api.ErrKind)
			refuses(t, done(constant(x), 2), api.ErrKind)
		}
		for n := range 7 {
			want := api.ErrCount
			if n == 2 {
				want = api.ErrFuel
			}
			refuses(t, done(global("x"), n), want)
		}
		for _, x := range words(ref(4), ref(8)) { // a record, moved or not
			w.Globs = globals(ref(0), x)
			refuses(t, done(global("y"), 0), api.ErrKind)
		}
	}
}

// deep: x calls itself as often as its argument says, and one time more what y
// has, with one argument.
func deep(last api.Func) api.World {
	f := function(1, local(0), constant(num(0)), prim("="), orElse(9), global("y"), constant(num(0)), call(1), jump(14), global("x"), local(0), constant(num(1)), prim("-"), call(1), tick)
	return calls(f, last)
}

func TestP47Deep(t *testing.T) {
	w := deep(function(1, local(0)))
	w.Globs[1].Value = ref(2)
	// its own call, n more, and the last one: 100 in all
	tells(t, w, of(vm.Call(w, ref(0), words(num(98)), 1000)), num(0), w.Globs, w.Heap)
	refuses(t, of(vm.Call(w, ref(0), words(num(99)), 1000)), api.ErrDeep)
	refuses(t, of(vm.Call(w, ref(0), words(num(5000)), 20000)), api.ErrDeep)
	tells(t, w, runs(w, global("x"), constant(num(97)), call(1)), num(0), w.Globs, w.Heap)
	refuses(t, runs(w, global("x"), constant(num(98)), call(1)), api.ErrDeep)
	// what is called is looked at first
	w.Globs[1].Value = num(1)
	refuses(t, of(vm.Call(w, ref(0), words(num(99)), 1000)), api.ErrKind)
	w = deep(function(0, constant(null())))
	w.Globs[1].Value = ref(2)
	refuses(t, of(vm.Call(w, ref(0), words(num(99)), 1000)), api.ErrCount)
	// calls that ended wait no more
	w = calls(function(1, local(0), constant(num(1)), prim("+")), function(0, constant(null())))
	l := code(constant(num(0)), store(0))
	for range 150 {
		l = append(l, global("x"), local(0), call(1), store(0))
	}
	tells(t, w, runsWith(w, 1, append(l, local(0))...), num(150), w.Globs, w.Heap)
}

// OTail is never too deep, neither where there are as many calls as can be.
func TestP47Tail(t *testing.T) {
	count := api.Func{Params: 1, Locals: 1, Code: code(tick, local(0), constant(num(0)), prim("="), orElse(7), constant(sym("end")), ret, constant(num(3)), global("y"), local(0), constant(num(1)), prim("-"), tail(1))}
	w := deep(count)
	w.Globs[1].Value = ref(2)
	tells(t, w, of(vm.Call(w, ref(2), words(num(19999)), 20000)), sym("end"), w.Globs, w.Heap)
	refuses(t, of(vm.Call(w, ref(2), words(num(20000)), 20000)), api.ErrFuel)
	w.Funcs[0].Code[6] = constant(num(500))
	tells(t, w, of(vm.Call(w, ref(0), words(num(98)), 1000)), sym("end"), w.Globs, w.Heap)
	refuses(t, of(vm.Call(w, ref(0), words(num(99)), 1000)), api.ErrDeep)
	// it tells the one that called this call
	w = calls(api.Func{Params: 1, Locals: 3, Code: code(tick, constant(num(1)), global("y"), local(0), constant(num(2)), tail(2))}, function(2, local(0), local(1), prim("-")))
	w.Globs[1].Value = ref(2)
	tells(t, w, runs(w, constant(num(100)), global("x"), constant(num(7)), call(1), prim("-")), num(95), w.Globs, w.Heap)
	tells(t, w, of(vm.Call(w, ref(0), words(num(7)), 2)), num(5), w.Globs, w.Heap)
}

// Values are kept as they are, and looked at where they were moved to.
func TestP47Moved(t *testing.T) {
	w := calls(function(1, local(0)), function(0, constant(null())))
	w.Globs[1].Value = ref(4)
	tells(t, w, runs(w, global("y")), ref(4), w.Globs, w.Heap)
	tells(t, w, runs(w, global("y"), assign("x"), global("y")), ref(4), globals(ref(4), ref(4)), w.Heap)
	tells(t, w, runsWith(w, 1, global("y"), store(0), global("x"), local(0), call(1)), ref(4), w.Globs, w.Heap)
	tells(t, w, runs(w, global("y"), orElse(5), constant(num(1)), jump(6), constant(num(2))), num(1), w.Globs, w.Heap)
	tells(t, w, runs(w, global("y"), is("p")), truth(1), w.Globs, w.Heap)
	tells(t, w, runs(w, global("y"), get("p", "a")), num(7), w.Globs, w.Heap)
	tells(t, w, runs(w, global("y"), boxed), ref(12), w.Globs, heapOf(60, w.Heap.Words, box(ref(4))))
	tells(t, w, runs(w, global("y"), boxed, opened), ref(4), w.Globs, heapOf(60, w.Heap.Words, box(ref(4))))
	tells(t, w, runs(w, global("y"), makes("p", 1)), ref(12), w.Globs, heapOf(60, w.Heap.Words, record(0, 0, ref(4))))
	tells(t, w, runs(w, global("y"), constant(null()), prim("cons")), ref(12), w.Globs, heapOf(60, w.Heap.Words, pair(ref(8), null())))
	tells(t, w, runs(w, global("y"), global("y"), put("p", "a")), ref(4), w.Globs, heapOf(60, closure(0), closure(1), moved(8, null()), record(0, 0, ref(4))))
}
