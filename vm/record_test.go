package vm_test

import (
	"slices"
	"testing"

	"graftery/api"
	"graftery/vm"
)

// grown: a record p of three versions: (a), then (b c), which are a and 1
// more, and the list of a, then (c) alone; and a record q (a).
func grown(x, y api.Word, h api.Heap) api.World {
	p := then(then(rec("p", "a"), []string{"b", "c"}, 0, 1), []string{"c"}, 2)
	w := world(globals(x, y), []api.Rec{p, rec("q", "a")},
		function(1, local(0), constant(num(1)), prim("+")),
		function(1, local(0), constant(null()), prim("cons")),
		function(2, local(1)),
	)
	return on(w, h)
}

func TestP410BroughtUp(t *testing.T) {
	w := grown(ref(0), null(), heapOf(50, record(0, 0, num(5)), box(ref(0))))
	want := heapOf(50, moved(9, null()), box(ref(0)), pair(num(5), null()), moved(14, null(), null()), record(0, 2, ref(6)))
	tells(t, w, runs(w, global("x"), get("p", "c")), ref(6), w.Globs, want)
	// from the version between
	w = grown(ref(0), null(), heapOf(50, record(0, 1, num(6), sym("c"))))
	tells(t, w, runs(w, global("x"), get("p", "c")), sym("c"), w.Globs, heapOf(50, moved(5, null(), null()), record(0, 2, sym("c"))))
	// what is there already is left alone
	w = grown(ref(0), null(), heapOf(50, record(0, 2, sym("c")), record(0, 0, num(5))))
	tells(t, w, runs(w, global("x"), get("p", "c")), sym("c"), w.Globs, w.Heap)
	// what was moved is found
	w = grown(ref(0), null(), heapOf(50, moved(4, null()), moved(7), record(0, 1, num(6), sym("c"))))
	want = heapOf(50, moved(4, null()), moved(7), moved(12, null(), null()), record(0, 2, sym("c")))
	tells(t, w, runs(w, global("x"), get("p", "c")), sym("c"), w.Globs, want)
}

// All that look at it look at the same one then.
func TestP410Once(t *testing.T) {
	w := grown(ref(0), ref(4), heapOf(60, record(0, 0, num(5)), pair(ref(0), ref(0))))
	body := code(global("y"), prim("car"), get("p", "c"), global("x"), get("p", "c"), prim("eq?"))
	behind := heapOf(60, moved(10, null()), pair(ref(0), ref(0)), pair(num(5), null()), moved(15, null(), null()), record(0, 2, ref(7)))
	tells(t, w, runs(w, body...), truth(1), w.Globs, behind)
	body = code(global("x"), get("p", "c"), pop, global("x"), global("y"), prim("cdr"), prim("eq?"))
	tells(t, w, runs(w, body...), truth(1), w.Globs, behind)
}

// What a field is made of costs no fuel, but what is behind it does.
func TestP410Fuel(t *testing.T) {
	w := grown(ref(0), null(), heapOf(50, record(0, 0, num(5))))
	w.Funcs[2].Code = code(tick, tick, tick, tick, local(1), ret)
	f := function(0, global("x"), get("p", "c"))
	if o := of(vm.Run(w, f, 1)); o.code != api.OK || o.value != ref(4) {
		t.Error(o)
	}
	f = function(0, global("x"), get("p", "c"), tick)
	if o := of(vm.Run(w, f, 2)); o.code != api.OK || o.value != ref(4) {
		t.Error(o)
	}
	refuses(t, of(vm.Run(w, f, 1)), api.ErrFuel)
}

// It is never too deep.
func TestP410Deep(t *testing.T) {
	w := deep(function(1, global("z"), get("p", "b")))
	w.Recs = []api.Rec{then(rec("p", "a"), []string{"b"}, 2)}
	w.Funcs = append(w.Funcs, function(1, local(0), constant(num(1)), prim("+")))
	w.Globs = []api.Glob{glob("x", ref(0)), glob("y", ref(2)), glob("z", ref(8))}
	behind := heapOf(60, closure(0), closure(1), moved(8, null()), moved(12, null()), record(0, 1, num(8)))
	tells(t, w, of(vm.Call(w, ref(0), words(num(98)), 1000)), num(8), w.Globs, behind)
	refuses(t, of(vm.Call(w, ref(0), words(num(99)), 1000)), api.ErrDeep)
}

// As many versions as there can be; fields that come and go.
func TestP410Versions(t *testing.T) {
	r := rec("p", "a")
	for range 19 {
		r = then(r, []string{"a"}, 0)
	}
	w := on(world(globals(ref(0), null()), []api.Rec{r}, function(1, local(0), constant(num(1)), prim("+"))), heapOf(100, record(0, 0, num(5))))
	want := api.Heap{Limit: 100}
	for i := range 19 {
		want.Words = append(want.Words, moved(4*i+4, null())...)
	}
	want.Words = append(want.Words, record(0, 19, num(24))...)
	tells(t, w, runs(w, global("x"), get("p", "a")), num(24), w.Globs, want)

	six := []string{"a", "b", "c", "d", "e", "f"}
	p := then(then(rec("p"), six, 0, 1, 0, 0, 0, 1), nil)
	p = then(p, []string{"z"}, 1)
	w = on(world(globals(ref(0), null()), []api.Rec{p}, function(0, constant(num(1))), function(0, constant(sym("s")))), heapOf(50, record(0, 0)))
	want = heapOf(50, moved(3), moved(12, slices.Repeat(words(null()), 6)...), moved(15), record(0, 3, sym("s")))
	tells(t, w, runs(w, global("x"), get("p", "z")), sym("s"), w.Globs, want)
}

// Each field is made of the values of the version ahead, in their order.
func TestP410Values(t *testing.T) {
	fields := []string{"a", "b", "c", "d", "e", "f"}
	r := then(rec("p", fields...), fields, 5, 4, 3, 2, 1, 0)
	w := world(globals(ref(0), null()), []api.Rec{r})
	for i := range 6 {
		w.Funcs = append(w.Funcs, with(function(6, local(i)), 8, 0))
	}
	w = on(w, heapOf(50, record(0, 0, num(0), num(1), num(2), num(3), sym("e"), ref(0))))
	want := heapOf(50, moved(9, slices.Repeat(words(null()), 6)...), record(0, 1, ref(0), sym("e"), num(3), num(2), num(1), num(0)))
	tells(t, w, runs(w, global("x"), get("p", "b")), sym("e"), w.Globs, want)
	// of its own there are Nils behind them
	w.Funcs[5] = with(function(6, local(7)), 8, 0)
	want.Words[12] = null()
	tells(t, w, runs(w, global("x"), get("p", "a")), null(), w.Globs, want)
}

func TestP410Refuses(t *testing.T) {
	for _, c := range []struct {
		body []api.Instr
		want api.Errno
	}{
		{code(local(0), prim("error")), api.ErrRaise},
		{code(local(0), prim("car")), api.ErrKind},
		{code(local(0), constant(num(0)), prim("quotient")), api.ErrRange},
		{code(local(0), constant(sym("a")), prim("<")), api.ErrKind},
	} {
		for i := range 2 {
			w := grown(ref(0), null(), heapOf(50, record(0, 0, num(5)), record(0, 2, null())))
			w.Funcs[i] = function(1, c.body...)
			refuses(t, runs(w, global("x"), get("p", "c")), c.want)
			// ahead of what is not there
			refuses(t, runs(w, global("x"), get("p", "a")), c.want)
			refuses(t, runs(w, global("x"), constant(num(1)), put("p", "a")), c.want)
			refuses(t, of(vm.Touch(w, ref(0))), c.want)
			refuses(t, of(vm.Settle(w, ref(0))), c.want)
			// nobody looks at it
			tells(t, w, runs(w, global("x"), is("p")), truth(1), w.Globs, w.Heap)
			tells(t, w, of(vm.Touch(w, ref(4))), ref(4), w.Globs, w.Heap)
			refuses(t, runs(w, global("x"), get("q", "a")), api.ErrKind)
		}
	}
}

// A record to which a Moved behind it is one can't be moved: the heap may not
// be then (P3.3, P3.9); unless it is collected first.
func TestP410MayNotBeMoved(t *testing.T) {
	w := grown(ref(0), ref(5), heapOf(50, record(0, 1, num(6), sym("c")), moved(0)))
	may(t, w, true)
	for _, s := range []string{"x", "y"} {
		refuses(t, runs(w, global(s), get("p", "c")), api.ErrForm)
	}
	refuses(t, of(vm.Touch(w, ref(0))), api.ErrForm)
	refuses(t, of(vm.Touch(w, ref(5))), api.ErrForm)
	tells(t, w, of(vm.Settle(w, ref(5))), ref(5), globals(ref(0), ref(0)), heapOf(50, moved(5, null(), null()), record(0, 2, sym("c"))))
	// one ahead of it may be one to it
	w = grown(ref(3), ref(0), heapOf(50, moved(3), record(0, 1, num(6), sym("c"))))
	tells(t, w, of(vm.Touch(w, ref(0))), ref(8), w.Globs, heapOf(50, moved(3), moved(8, null(), null()), record(0, 2, sym("c"))))
	// with no room left it is collected, and can be
	w = grown(ref(35), ref(40), full(7, record(0, 1, num(6), sym("c")), moved(35)))
	w.Heap.Words = append(w.Heap.Words, slices.Repeat(box(null()), 2)...)
	may(t, w, true)
	tells(t, w, runs(w, global("y"), get("p", "c")), sym("c"), globals(ref(0), ref(0)), heapOf(50, moved(5, null(), null()), record(0, 2, sym("c"))))
}

// It stands on the stack, ahead of its new values, while the heap is collected;
// these are the values of the new one.
func TestP410Collected(t *testing.T) {
	// no room for the list that is made; the record is reached by the stack alone
	w := grown(ref(46), null(), full(0, record(0, 0, num(5))))
	body := code(global("x"), constant(null()), assign("x"), get("p", "c"))
	want := heapOf(50, moved(7, null()), pair(num(5), null()), moved(12, null(), null()), record(0, 2, ref(4)))
	tells(t, w, runs(w, body...), ref(4), globals(null(), null()), want)
	// room for that, but not for the record
	w = grown(ref(43), null(), full(3, record(0, 0, num(5))))
	tells(t, w, runs(w, body...), ref(4), globals(null(), null()), want)
	// room for both, but not for the last one
	w = grown(ref(38), null(), full(8, record(0, 0, num(5))))
	want = heapOf(50, moved(8, null(), null()), pair(num(5), null()), record(0, 2, ref(5)))
	tells(t, w, runs(w, body...), ref(5), globals(null(), null()), want)
	// what was collected while the first field was made: the next one is made of it, too
	w = grown(ref(46), null(), full(0, box(sym("v")), record(0, 0, ref(44))))
	w.Funcs[0] = function(1, local(0), local(0), prim("cons"))
	want = heapOf(50, moved(12, null()), box(sym("v")), pair(ref(4), ref(4)), pair(ref(4), null()), moved(17, null(), null()), record(0, 2, ref(9)))
	tells(t, w, runs(w, body...), ref(9), globals(null(), null()), want)
}

// Roots, while a field is made: the calls, the record and the fields that are
// made, then the call that makes it: its locals and its stack.
func TestP410Roots(t *testing.T) {
	r := then(rec("p", "a"), []string{"a", "b", "c"}, 0, 1, 1)
	w := world([]api.Glob{glob("x", ref(0)), glob("y", ref(4)), glob("z", ref(2))}, []api.Rec{r},
		function(1, local(0), prim("car")),
		with(function(1, constant(sym("s")), local(0), prim("car"), constant(num(1)), prim("cons")), 2, 0),
	)
	// y has a pair, whose first value is a box
	w = on(w, heapOf(50, box(sym("x")), box(sym("v")), record(0, 0, ref(44)), slices.Repeat(box(sym("gone")), 18), pair(ref(2), ref(0)), pair(null(), null())))
	body := code(global("y"), constant(null()), assign("y"), constant(null()), assign("z"), get("p", "c"))
	nils := []api.Glob{glob("x", ref(0)), glob("y", null()), glob("z", null())}
	want := heapOf(50,
		box(sym("x")),
		moved(17, null()),
		box(sym("v")),
		pair(ref(6), ref(0)),
		pair(ref(6), num(1)), pair(ref(6), num(1)),
		record(0, 1, ref(6), ref(11), ref(14)),
	)
	tells(t, w, runs(w, body...), ref(14), nils, want)
}

func TestP410NoRoom(t *testing.T) {
	// the record takes the last of the room: none is left for another one
	globs, h := kept(4)
	globs[1].Value = ref(46)
	w := grown(null(), null(), heapOf(50, h.Words, record(0, 0, num(5))))
	w.Globs = globs
	may(t, w, true)
	refuses(t, runs(w, global("y"), get("p", "c")), api.ErrRoom)
	refuses(t, of(vm.Touch(w, ref(46))), api.ErrRoom)
	refuses(t, of(vm.Settle(w, ref(46))), api.ErrRoom)
}

func TestP411Make(t *testing.T) {
	w := grown(null(), null(), heapOf(50, box(null())))
	tells(t, w, runs(w, constant(num(9)), constant(sym("c")), makes("p", 1)), ref(2), w.Globs, heapOf(50, box(null()), record(0, 2, sym("c"))))
	tells(t, w, runs(w, constant(num(9)), constant(sym("c")), makes("q", 1), pop), num(9), w.Globs, heapOf(50, box(null()), record(1, 0, sym("c"))))
	for n := range 7 {
		l := append(slices.Repeat(code(constant(num(1))), n), makes("p", n))
		if n != 1 {
			refuses(t, runs(w, l...), api.ErrCount)
		}
	}
	// ahead of there being no room
	globs, h := kept(0)
	w = grown(null(), null(), h)
	w.Globs = globs
	refuses(t, runs(w, makes("p", 0)), api.ErrCount)
	refuses(t, runs(w, constant(num(1)), makes("p", 1)), api.ErrRoom)
	// most fields, and none, in their order
	w = world(nil, []api.Rec{rec("n"), rec("m", "a", "b", "c", "d", "e", "f")})
	l := code(constant(num(1)), constant(num(2)), constant(num(3)), constant(num(4)), constant(num(5)), constant(num(6)), makes("m", 6))
	tells(t, w, runs(w, l...), ref(0), nil, heapOf(50, record(1, 0, num(1), num(2), num(3), num(4), num(5), num(6))))
	tells(t, w, runs(w, makes("n", 0)), ref(0), nil, heapOf(50, record(0, 0)))
}

func TestP411Is(t *testing.T) {
	things := []([]api.Word){record(0, 0, num(5)), record(0, 1, num(1), null()), record(0, 2, null()), record(1, 0, null()), moved(13, null()), moved(0), box(ref(0)), pair(ref(0), ref(0)), closure(2)}
	h := heapOf(60, things...)
	at := 0
	for i, l := range things {
		w := grown(ref(at), null(), h)
		wantP, wantQ := 0, 0
		if i < 3 || i == 5 {
			wantP = 1
		}
		if i == 3 || i == 4 {
			wantQ = 1
		}
		tells(t, w, runs(w, constant(num(9)), global("x"), is("p")), truth(wantP), w.Globs, w.Heap)
		tells(t, w, runs(w, constant(num(9)), global("x"), is("q")), truth(wantQ), w.Globs, w.Heap)
		tells(t, w, runs(w, constant(num(9)), global("x"), is("q"), pop), num(9), w.Globs, w.Heap)
		at += len(l)
	}
	for _, x := range words(num(0), truth(1), null(), sym("p")) {
		w := grown(x, null(), h)
		tells(t, w, runs(w, global("x"), is("p")), truth(0), w.Globs, w.Heap)
	}
}

func TestP411Get(t *testing.T) {
	w := world(globals(ref(0), null()), []api.Rec{rec("p", "a", "b", "c")})
	w = on(w, heapOf(50, record(0, 0, num(1), sym("b"), ref(0))))
	for i, s := range []string{"a", "b", "c"} {
		tells(t, w, runs(w, constant(num(9)), global("x"), get("p", s)), w.Heap.Words[3+i], w.Globs, w.Heap)
		tells(t, w, runs(w, constant(num(9)), global("x"), get("p", s), pop), num(9), w.Globs, w.Heap)
	}
	for _, s := range []string{"", "d", "A", "p"} {
		refuses(t, runs(w, global("x"), get("p", s)), api.ErrField)
		refuses(t, runs(w, global("x"), constant(num(1)), put("p", s)), api.ErrField)
	}
	// only fields of the version that is now are there
	w = grown(ref(0), ref(4), heapOf(50, record(0, 0, num(5)), record(0, 2, num(1))))
	for _, s := range []string{"x", "y"} {
		for _, f := range []string{"a", "b"} {
			refuses(t, runs(w, global(s), get("p", f)), api.ErrField)
			refuses(t, runs(w, global(s), constant(num(1)), put("p", f)), api.ErrField)
		}
	}
}

func TestP411Put(t *testing.T) {
	w := world(globals(ref(0), null()), []api.Rec{rec("p", "a", "b", "c")})
	w = on(w, heapOf(50, record(0, 0, num(1), sym("b"), ref(0))))
	for i, s := range []string{"a", "b", "c"} {
		for _, x := range words(num(7), sym("z"), null()) {
			behind := heapOf(50, w.Heap.Words)
			behind.Words[3+i] = x
			tells(t, w, runs(w, constant(num(9)), global("x"), constant(x), put("p", s)), x, w.Globs, behind)
			tells(t, w, runs(w, constant(num(9)), global("x"), constant(x), put("p", s), pop), num(9), w.Globs, behind)
		}
	}
	// it is brought up first
	w = grown(ref(0), null(), heapOf(50, record(0, 0, num(5))))
	behind := heapOf(50, moved(7, null()), pair(num(5), null()), moved(12, null(), null()), record(0, 2, num(3)))
	tells(t, w, runs(w, global("x"), constant(num(3)), put("p", "c")), num(3), w.Globs, behind)
	// the value may be the record itself, which is as it was then
	behind.Words[15] = ref(0)
	tells(t, w, runs(w, global("x"), global("x"), put("p", "c")), ref(0), w.Globs, behind)
}

// Both have changed their places: the value is a root ahead of the record.
func TestP411PutRoots(t *testing.T) {
	w := grown(ref(44), ref(48), full(0, record(0, 0, num(5)), box(sym("v"))))
	body := code(global("x"), global("y"), constant(null()), assign("x"), constant(null()), assign("y"), put("p", "c"))
	behind := heapOf(50, box(sym("v")), moved(9, null()), pair(num(5), null()), moved(14, null(), null()), record(0, 2, ref(0)))
	tells(t, w, runs(w, body...), ref(0), globals(null(), null()), behind)
}

func TestP411NoRecord(t *testing.T) {
	h := heapOf(60, record(1, 0, null()), moved(0), box(null()), pair(null(), null()), closure(2), record(0, 2, null()))
	for _, x := range words(num(0), truth(0), null(), sym("p"), ref(0), ref(4), ref(7), ref(9), ref(12)) {
		w := grown(x, ref(14), h)
		for _, f := range []string{"c", "a", ""} {
			refuses(t, runs(w, global("x"), get("p", f)), api.ErrKind)
			refuses(t, runs(w, global("x"), constant(num(1)), put("p", f)), api.ErrKind)
			// the record is below the value
			refuses(t, runs(w, global("x"), global("y"), put("p", f)), api.ErrKind)
		}
	}
}
