package vm_test

import (
	"math"
	"slices"
	"testing"

	"graftery/api"
	"graftery/vm"
)

// mayFunc: a function may be, or may not, in a world with globals x and y, the
// record p, and functions with 0, 1 and 2 values from around them.
func mayFunc(t *testing.T, f api.Func, want bool) {
	t.Helper()
	w := world(globals(null(), null()), []api.Rec{rec("p", "a")}, with(function(0, constant(num(1))), 0, 0), with(function(1, capt(0)), 1, 1), with(function(0, capt(1)), 0, 2))
	may(t, w, true)
	w.Funcs = append(w.Funcs, f)
	may(t, w, want)
}

// mayInstr: an instruction that takes and leaves so many may be, or may not, in
// a function with 2 params, 3 locals and 2 values from around it. If it may, it
// takes and leaves just so many.
func mayInstr(t *testing.T, in api.Instr, takes, leaves int, want bool) {
	t.Helper()
	f := func(l ...api.Instr) api.Func { return with(function(2, l...), 3, 2) }
	below := slices.Repeat(code(constant(num(1))), takes)
	drop := slices.Repeat(code(pop), leaves)
	mayFunc(t, f(slices.Concat(below, code(in), drop, code(constant(null())))...), want)
	if !want {
		return
	}
	if takes > 0 {
		mayFunc(t, f(slices.Concat(below[1:], code(in), drop, code(constant(null())))...), false)
	}
	mayFunc(t, f(slices.Concat(below, code(in, pop), drop, code(constant(null())))...), false)
	mayFunc(t, api.Func{Params: 2, Locals: 3, Capts: 2, Code: slices.Concat(code(tick), below, code(in), drop)}, false)
}

func TestP42Plain(t *testing.T) {
	mayInstr(t, tick, 0, 0, true)
	mayInstr(t, boxed, 1, 1, true)
	mayInstr(t, opened, 1, 1, true)
	mayInstr(t, filled, 2, 0, true)
	mayInstr(t, pop, 1, 0, true)
	for _, op := range []int{0, -1, 23, 24, math.MaxInt, math.MinInt} {
		mayInstr(t, api.Instr{Op: op}, 0, 0, false)
	}
}

func TestP42Const(t *testing.T) {
	for _, w := range words(num(api.MaxInt), num(-api.MaxInt), truth(0), truth(1), null(), sym("a"), sym(long(16)), sym(" (")) {
		mayInstr(t, constant(w), 0, 1, true)
	}
	for _, w := range words(num(api.MaxInt+1), num(-api.MaxInt-1), truth(2), truth(-1), sym(""), sym(long(17)), ref(0), api.Word{}, api.Word{Kind: api.Nil, N: 1}, api.Word{Kind: api.Int, S: "a"}, api.Word{Kind: api.Pair}, api.Word{Kind: 11}) {
		mayInstr(t, constant(w), 0, 1, false)
	}
	// no Ref, also if a thing begins there
	w := on(world(nil, nil, function(0, constant(ref(0)))), heapOf(50, box(null())))
	may(t, w, false)
}

func TestP42Numbers(t *testing.T) {
	for _, c := range []struct {
		in            func(int) api.Instr
		most          int
		takes, leaves int
	}{
		{local, 2, 0, 1}, {store, 2, 1, 0}, {capt, 1, 0, 1},
		{call, 6, 1, 1},
		{func(n int) api.Instr { return makes("p", n) }, 6, 0, 1},
	} {
		more := 0 // for each of A
		if op := c.in(0).Op; op == api.OCall || op == api.OMake {
			more = 1
		}
		for n := range c.most + 1 {
			mayInstr(t, c.in(n), c.takes+more*n, c.leaves, true)
		}
		mayInstr(t, c.in(-1), c.takes, c.leaves, false)
		mayInstr(t, c.in(c.most+1), c.takes+more*(c.most+1), c.leaves, false)
		mayInstr(t, c.in(math.MaxInt), c.takes, c.leaves, false)
		mayInstr(t, c.in(math.MinInt), c.takes, c.leaves, false)
	}
	// OTail ends the way, with what it takes
	for n := range 8 {
		l := slices.Repeat(code(constant(num(1))), n+1)
		mayFunc(t, api.Func{Code: slices.Concat(code(tick), l, code(tail(n)))}, n <= 6)
		mayFunc(t, api.Func{Code: slices.Concat(code(tick), l[1:], code(tail(n)))}, false)
		mayFunc(t, api.Func{Code: slices.Concat(code(tick), l, code(pop, constant(null()), constant(null()), tail(n)))}, n <= 6)
	}
}

func TestP42Names(t *testing.T) {
	for _, s := range []string{"x", "y", "p", "q", "", "X", "car"} {
		mayInstr(t, global(s), 0, 1, s == "x" || s == "y")
		mayInstr(t, assign(s), 1, 0, s == "x" || s == "y")
		mayInstr(t, makes(s, 2), 2, 1, s == "p")
		mayInstr(t, is(s), 1, 1, s == "p")
		mayInstr(t, get(s, "a"), 1, 1, s == "p")
		mayInstr(t, put(s, "a"), 2, 1, s == "p")
	}
	// of the field nothing is said, but when it is looked for
	mayInstr(t, get("p", "b"), 1, 1, true)
	mayInstr(t, get("p", ""), 1, 1, true)
	mayInstr(t, put("p", "("), 2, 1, true)
}

func TestP42Close(t *testing.T) {
	for a := -1; a < 5; a++ {
		for b := -1; b < 4; b++ {
			// the functions 0 to 3 have 0, 1, 2 and 2 values; the last one is the function itself
			mayInstr(t, closed(a, b), max(b, 0), 1, a == b && a >= 0 && a < 3 || a == 3 && b == 2)
		}
	}
	mayInstr(t, closed(math.MaxInt, 0), 0, 1, false)
	mayInstr(t, closed(math.MinInt, 0), 0, 1, false)
	mayInstr(t, closed(0, math.MinInt), 0, 1, false)
}

func TestP42Prim(t *testing.T) {
	for _, s := range []string{"+", "-", "*", "quotient", "remainder", "=", "<", "cons", "eq?", "car", "cdr", "null?", "pair?", "not", "error"} {
		for n := -1; n < 4; n++ {
			mayInstr(t, api.Instr{Op: api.OPrim, S: s, A: n}, max(n, 0), 1, n == prim(s).A)
		}
	}
	for _, s := range []string{"", "quote", "if", "x", "p", "list", ">", "eq", "Car"} {
		mayInstr(t, api.Instr{Op: api.OPrim, S: s, A: 1}, 1, 1, false)
		mayInstr(t, api.Instr{Op: api.OPrim, S: s, A: 2}, 2, 1, false)
	}
}

// What an operator has not may be anything.
func TestP42OtherFields(t *testing.T) {
	in := tick
	in.A, in.B, in.S, in.T, in.W = -1, math.MaxInt, "?", "(", ref(9)
	mayInstr(t, in, 0, 0, true)
	in.Op = api.OPop
	mayInstr(t, in, 1, 0, true)
	in = constant(num(1))
	in.A, in.S = math.MinInt, "?"
	mayInstr(t, in, 0, 1, true)
}

func TestP43Numbers(t *testing.T) {
	f := function(0, constant(null()))
	for _, c := range []struct {
		params, locals, capts int
		want                  bool
	}{
		{0, 0, 0, true}, {6, 6, 0, true}, {6, 40, 40, true}, {0, 40, 0, true}, {0, 0, 40, true}, {3, 3, 0, true}, {3, 4, 1, true},
		{7, 7, 0, false}, {-1, 0, 0, false}, {-1, -1, 0, false}, {3, 2, 0, false}, {0, -1, 0, false}, {0, 41, 0, false},
		{0, 0, -1, false}, {0, 0, 41, false}, {math.MinInt, 0, 0, false}, {math.MaxInt, math.MaxInt, 0, false}, {0, math.MaxInt, 0, false}, {0, 0, math.MaxInt, false}, {0, 0, math.MinInt, false},
	} {
		f.Params, f.Locals, f.Capts = c.params, c.locals, c.capts
		mayFunc(t, f, c.want)
	}
}

func TestP43Code(t *testing.T) {
	mayFunc(t, api.Func{}, false)
	mayFunc(t, api.Func{Code: code(tick)}, false)
	mayFunc(t, api.Func{Code: code(ret)}, false)
	mayFunc(t, api.Func{Code: code(tick, ret)}, false)
	mayFunc(t, api.Func{Code: code(constant(null()), ret)}, false)
	mayFunc(t, api.Func{Code: code(constant(null()), tick, ret)}, false)
	mayFunc(t, api.Func{Code: code(tick, tick, constant(null()), tick, ret)}, true)
	for _, n := range []int{5997, 5998, 5999} {
		// so many OTicks and three more; or as high a stack as there can be
		mayFunc(t, function(0, append(slices.Repeat(code(tick), n-1), constant(null()))...), n < 5999)
		mayFunc(t, function(0, slices.Repeat(code(constant(null())), n)...), n < 5999)
	}
}

func TestP43Ways(t *testing.T) {
	k := constant(truth(0))
	for i, c := range []struct {
		code []api.Instr
		want bool
	}{
		{code(tick, jump(2), k, ret), true},
		{code(tick, jump(3), ret, k, ret), true},
		{code(tick, k, orElse(3), k, ret), true},
		{code(tick, k, orElse(5), k, ret, k, ret), true},
		{code(tick, k, orElse(5), k, jump(6), k, ret), true},
		{code(tick, k, orElse(5), k, jump(6), k, k, ret), true},
		// back, or to itself
		{code(tick, jump(1), k, ret), false},
		{code(tick, jump(0), k, ret), false},
		{code(tick, k, orElse(2), k, ret), false},
		{code(tick, k, orElse(1), k, ret), false},
		{code(tick, k, orElse(0), k, ret), false},
		// out of the code
		{code(tick, k, ret, jump(4)), false},
		{code(tick, k, ret, jump(-1)), false},
		{code(tick, k, ret, jump(math.MaxInt)), false},
		{code(tick, k, ret, orElse(4)), false},
		{code(tick, k, orElse(-1), k, ret), false},
		{code(tick, k, k), false},
		{code(tick, k, orElse(4), tick, k, ret), true},
		{code(tick, k, orElse(5), k, ret, tick), false},
		{code(tick, k, jump(4), ret, orElse(2)), false},
		{code(tick, k, k, orElse(4), orElse(4)), false},
		{code(tick, k, jump(4), ret, tick), false},
		// where no way comes only the instructions must be right
		{code(tick, k, ret, jump(0)), true},
		{code(tick, k, ret, jump(3)), true},
		{code(tick, k, ret, orElse(1)), true},
		{code(tick, k, ret, pop, pop), true},
		{code(tick, k, ret, ret), true},
		{code(tick, k, tail(0), call(6)), true},
		{code(tick, jump(5), pop, jump(2), k, k, ret), true},
		{code(tick, k, ret, local(0)), false},
		{code(tick, k, ret, api.Instr{}), false},
		// unlike stacks where ways meet
		{code(tick, k, orElse(4), k, k, ret), false},
		{code(tick, k, k, orElse(5), pop, k, ret), false},
		{code(tick, k, k, orElse(6), pop, k, ret), true},
		{code(tick, k, orElse(6), k, k, jump(7), k, ret), false},
		{code(tick, k, orElse(7), k, k, pop, jump(8), k, ret), true},
		{code(tick, k, orElse(5), k, ret, ret), false},
		{code(tick, k, k, orElse(5), ret, ret), true},
		{code(tick, k, k, orElse(6), k, jump(6), ret), false},
		// more is taken than is there
		{code(tick, orElse(2), k, ret), false},
		{code(tick, pop, k, ret), false},
		{code(tick, k, pop, ret), false},
		{code(tick, k, k, pop, ret), true},
		{code(tick, k, k, filled, ret), false},
	} {
		f := api.Func{Code: c.code}
		w := world(nil, nil, f)
		if got := vm.Check(w) == api.OK; got != c.want {
			t.Errorf("case %d: %v, want %v", i, got, c.want)
		}
	}
}

// moving: a world whose function at 0 makes one field of two.
func moving(f api.Func) api.World {
	return world(globals(null(), null()), []api.Rec{then(rec("p", "a", "b"), []string{"c"}, 0)}, f)
}

func TestP44Moves(t *testing.T) {
	all := code(tick, tick, constant(truth(1)), orElse(6), local(0), jump(7), local(1), constant(num(1)), pop, prim("car"), prim("error"), ret)
	may(t, moving(api.Func{Params: 2, Locals: 2, Code: all}), true)
	may(t, moving(api.Func{Params: 2, Locals: 40, Code: all}), true)
	may(t, moving(api.Func{Params: 2, Locals: 2, Capts: 1, Code: all}), false)
	may(t, moving(api.Func{Params: 1, Locals: 2, Code: all}), false)
	may(t, moving(api.Func{Params: 3, Locals: 3, Code: all}), false)
	for _, in := range code(store(0), boxed, opened, filled, global("x"), assign("x"), closed(0, 0), call(0), tail(0), makes("p", 0), is("p"), get("p", "c"), put("p", "c")) {
		// behind the end, where no way comes: it may be in a function, but not in this one
		f := api.Func{Params: 2, Locals: 2, Code: append(slices.Clone(all), in)}
		may(t, moving(f), false)
		w := moving(f)
		w.Recs = []api.Rec{rec("p", "c")}
		may(t, w, true)
	}
	for s := range map[string]int{"+": 2, "-": 2, "*": 2, "quotient": 2, "remainder": 2, "=": 2, "<": 2, "cons": 2, "eq?": 2} {
		may(t, moving(function(2, local(0), local(1), prim(s))), true)
	}
	for s := range map[string]int{"car": 1, "cdr": 1, "null?": 1, "pair?": 1, "not": 1, "error": 1} {
		may(t, moving(function(2, local(0), prim(s))), true)
	}
}

func TestP44Versions(t *testing.T) {
	w := func(r api.Rec) api.World {
		return world(nil, []api.Rec{r}, function(0, constant(num(1))), function(1, local(0)), function(2, local(1)))
	}
	one := rec("p", "a")
	may(t, w(one), true)
	may(t, w(rec("p")), true)
	may(t, w(api.Rec{Name: "p"}), false)
	may(t, w(api.Rec{Name: "p", Moves: [][]int{{}}}), false)
	may(t, w(then(one, []string{"a", "b"}, 1, 1)), true)
	may(t, w(then(then(one, []string{"a", "b"}, 1, 1), []string{"c"}, 2)), true)
	may(t, w(then(then(one, nil), []string{"c"}, 0)), true)
	// as many as there are, no more, no less
	two := then(one, []string{"b"}, 1)
	for n := 2; n <= 22; n++ {
		may(t, w(two), n <= 20)
		two = then(two, []string{"b"}, 1)
	}
	// places of functions, and what these have
	may(t, w(then(one, []string{"a", "b"}, 1)), false)
	may(t, w(then(one, []string{"a"}, 1, 1)), false)
	may(t, w(then(one, nil, 1)), false)
	for _, i := range []int{-1, 0, 2, 3, math.MaxInt, math.MinInt} {
		may(t, w(then(one, []string{"a"}, i)), false)
		may(t, w(then(one, []string{"a", "b"}, 1, i)), false)
	}
	may(t, w(then(then(one, []string{"a", "b"}, 1, 1), []string{"c"}, 1)), false)
	// a list of moves more or less
	three := then(one, []string{"b"}, 1)
	three.Moves = nil
	may(t, w(three), false)
	three.Moves = [][]int{{1}, {1}}
	may(t, w(three), false)
	one.Moves = [][]int{{}}
	may(t, w(one), false)
}

func TestP44Names(t *testing.T) {
	w := func(r api.Rec) api.World { return world(nil, []api.Rec{r}, function(1, local(0))) }
	for _, s := range []string{"", "A", "car", "if", "was", "1a", long(17)} {
		may(t, w(rec(s, "a")), false)
	}
	may(t, w(rec(long(16), "a")), true)
	may(t, w(rec("p", "a", "b", "c", "d", "e", "f")), true)
	may(t, w(rec("p", "a", "b", "c", "d", "e", "f", "g")), false)
	may(t, w(rec("p", "a", "a")), false)
	may(t, w(rec("p", "car")), true)
	may(t, w(rec("p", "A")), false)
	// each version has the record's name, and may be
	r := then(rec("p", "a"), []string{"b"}, 0)
	may(t, w(r), true)
	r.Vers[0].Name = "q"
	may(t, w(r), false)
	r.Vers[0].Name, r.Vers[1].Name = "p", "q"
	may(t, w(r), false)
	r.Name, r.Vers[0].Name = "q", "q"
	may(t, w(r), true)
	may(t, w(then(rec("p", "a"), []string{"B"}, 0)), false)
	may(t, w(then(rec("p", "a"), []string{"b", "b"}, 0, 0)), false)
	may(t, w(then(rec("p", "A"), []string{"b"}, 0)), false)
	may(t, w(then(rec("p", "a"), []string{"a", "b", "c", "d", "e", "f", "g"}, 0, 0, 0, 0, 0, 0, 0)), false)
}

func TestP45HowMany(t *testing.T) {
	w := world(nil, nil)
	may(t, w, true)
	may(t, api.World{}, false)
	f := function(0, constant(null()))
	may(t, world(nil, nil, slices.Repeat([]api.Func{f}, 2000)...), true)
	may(t, world(nil, nil, slices.Repeat([]api.Func{f}, 2001)...), false)
	may(t, world(nil, nil, append(slices.Repeat([]api.Func{f}, 1999), api.Func{})...), false)
	for i := range 41 {
		w.Globs = append(w.Globs, glob("g"+text(i), null()))
		may(t, w, i < 40)
	}
	w.Globs = nil
	for i := range 9 {
		w.Recs = append(w.Recs, rec("p"+text(i)))
		may(t, w, i < 8)
	}
}

func TestP45Names(t *testing.T) {
	for _, s := range []string{"", "A", "car", "+", "if", "was", "1a", "-1", "a b", long(17)} {
		may(t, world([]api.Glob{glob("x", null()), glob(s, null())}, nil), false)
	}
	for _, s := range []string{"a", "p", "--", "->p", long(16)} {
		may(t, world([]api.Glob{glob("x", null()), glob(s, null())}, []api.Rec{rec("p")}), true)
	}
	may(t, world([]api.Glob{glob("x", null()), glob("y", null()), glob("x", num(1))}, nil), false)
	may(t, world(nil, []api.Rec{rec("p"), rec("q"), rec("p", "a")}), false)
	may(t, world(nil, []api.Rec{rec("p"), rec("q"), rec("r", "a")}), true)
}

func TestP45Globals(t *testing.T) {
	h := heapOf(50, box(null()), pair(num(1), null()))
	for _, w := range words(num(api.MaxInt), truth(1), null(), sym("a"), ref(0), ref(2)) {
		may(t, on(world(globals(w, null()), nil), h), true)
		may(t, on(world(globals(null(), w), nil), h), true)
	}
	for _, w := range words(api.Word{}, num(api.MaxInt+1), truth(2), sym(""), ref(1), ref(3), ref(5), ref(-1), ref(math.MaxInt), ref(math.MinInt), api.Word{Kind: api.Ref, S: "a"}, api.Word{Kind: api.Box}) {
		may(t, on(world(globals(w, null()), nil), h), false)
		may(t, on(world(globals(null(), w), nil), h), false)
	}
}

func TestP45Heap(t *testing.T) {
	w := world(nil, []api.Rec{rec("p", "a"), then(rec("q"), []string{"a", "b"}, 0, 0)}, function(0, constant(null())), with(function(0, constant(null())), 0, 2))
	for _, c := range []struct {
		thing []api.Word
		want  bool
	}{
		{nil, true}, {pair(null(), null()), true}, {box(ref(0)), true},
		{closure(0), true}, {closure(1, num(1), ref(0)), true},
		{closure(0, null()), false}, {closure(1), false}, {closure(1, null()), false}, {closure(1, null(), null(), null()), false}, {closure(2), false}, {closure(1999), false},
		{record(0, 0, null()), true}, {record(1, 0), true}, {record(1, 1, null(), num(2)), true},
		{record(0, 0), false}, {record(0, 0, null(), null()), false}, {record(0, 1, null()), false}, {record(0, 19, null()), false},
		{record(1, 0, null()), false}, {record(1, 1), false}, {record(1, 1, null()), false}, {record(1, 2, null(), null()), false}, {record(2, 0), false}, {record(7, 0), false},
		{append(moved(4), record(1, 0)...), false}, {append(moved(5), record(1, 0)...), true}, {append(moved(11, ref(77), closure(9)[0], api.Word{}), record(1, 0)...), false}, {append(moved(8, ref(77), closure(9)[0], api.Word{}), record(1, 0)...), true},
		{closure(0)[:1], false}, {words(num(1)), false}, {box(ref(1)), false},
	} {
		// behind a box, and ahead of another one
		may(t, on(w, heapOf(50, box(null()), c.thing, box(null()))), c.want)
	}
	for _, limit := range []int{49, 50, 60000, 60001, 0, -1, math.MaxInt, math.MinInt} {
		may(t, on(w, api.Heap{Limit: limit}), limit == 50 || limit == 60000)
	}
	may(t, on(w, heapOf(50, slices.Repeat(box(null()), 25))), true)
	may(t, on(w, heapOf(50, slices.Repeat(box(null()), 25), closure(0))), false)
}

func TestP45Copy(t *testing.T) {
	w := on(world(globals(ref(0), num(1)), []api.Rec{then(rec("p", "a"), []string{"a", "b"}, 0, 0)}, function(1, local(0))), heapOf(60, record(0, 0, ref(0))))
	may(t, w, true)
	for _, x := range []api.World{w, {}, {Heap: api.Heap{Words: words(num(1)), Limit: -1}}, {Funcs: []api.Func{{}}, Recs: []api.Rec{{}}, Globs: []api.Glob{{}}}} {
		if c := vm.Copy(x); !same(c, x) {
			t.Errorf("%v, want %v", c, x)
		}
	}
}

// badWorlds: one for each thing that may be wrong.
func badWorlds() []api.World {
	f := function(0, constant(null()))
	return []api.World{
		{},
		on(world(nil, nil), heapOf(50, words(num(1)))),
		world(nil, nil, slices.Repeat([]api.Func{f}, 2001)...),
		world(nil, nil, f, api.Func{}),
		world(nil, []api.Rec{{Name: "p"}}),
		world([]api.Glob{glob("car", null())}, nil),
		world(globals(ref(0), null()), nil),
		on(world(nil, nil, f), heapOf(50, closure(1))),
		on(world(nil, []api.Rec{rec("p", "a")}), heapOf(50, record(0, 0))),
	}
}

func TestP45OthersRefuse(t *testing.T) {
	f := function(0, constant(null()))
	for _, w := range badWorlds() {
		may(t, w, false)
		// all else is wrong, too, or right
		refuses(t, of(vm.Call(w, api.Word{}, words(api.Word{}), -1)), api.ErrState)
		refuses(t, of(vm.Call(w, ref(0), nil, 1)), api.ErrState)
		refuses(t, of(vm.Run(w, api.Func{}, -1)), api.ErrState)
		refuses(t, of(vm.Run(w, f, 1)), api.ErrState)
		refuses(t, of(vm.Touch(w, api.Word{})), api.ErrState)
		refuses(t, of(vm.Touch(w, null())), api.ErrState)
		refuses(t, of(vm.Settle(w, api.Word{})), api.ErrState)
		refuses(t, of(vm.Settle(w, null())), api.ErrState)
		refuses(t, of(vm.Put(w, nil, words(api.Word{}))), api.ErrState)
		refuses(t, of(vm.Put(w, box(null())[:1], words(null()))), api.ErrState)
	}
}
