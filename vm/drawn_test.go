package vm_test

import (
	"slices"
	"strings"
	"testing"

	"graftery/api"
	"graftery/heap"
	"graftery/vm"
)

// newDice: numbers that look drawn, the same each time.
func newDice(seed int) func(int) int {
	x := uint64(seed)*2862933555777941757 + 3037000493
	return func(most int) int {
		x = x*6364136223846793005 + 1442695040888963407
		return int(x>>33) % most
	}
}

// drawer draws a world, and code for it.
type drawer struct {
	next  func(int) int
	world api.World
}

func (d *drawer) oneOf(l ...string) string { return l[d.next(len(l))] }

func drawnWorld(next func(int) int) *drawer {
	d := &drawer{next: next}
	for _, s := range []string{"x", "y", "z", "f", "g"} {
		d.world.Globs = append(d.world.Globs, glob(s, null()))
	}
	d.drawRecords()
	capts := []int{0, 0, 1, 2}
	first := len(d.world.Funcs)
	for _, n := range capts {
		d.world.Funcs = append(d.world.Funcs, api.Func{Params: next(3), Capts: n})
	}
	for i := range capts {
		f := &d.world.Funcs[first+i]
		f.Locals = f.Params + next(3)
		f.Code = d.body(*f)
	}
	d.drawHeap(first)
	return d
}

// drawRecords, with their moves, which are the first functions.
func (d *drawer) drawRecords() {
	for _, name := range []string{"p", "q"} {
		r := rec(name, d.fields()...)
		for range d.next(4) {
			old, fields := r.Vers[len(r.Vers)-1], d.fields()
			var places []int
			for range fields {
				places = append(places, len(d.world.Funcs))
				f := api.Func{Params: len(old.Fields), Locals: len(old.Fields)}
				f.Code = slices.Concat(code(tick), d.moveExpr(f, 2), code(ret))
				relink(f.Code)
				d.world.Funcs = append(d.world.Funcs, f)
			}
			r = then(r, fields, places...)
		}
		d.world.Recs = append(d.world.Recs, r)
	}
}

func (d *drawer) fields() []string {
	l := []string{"a", "b", "c"}
	from := d.next(3)
	return slices.Clone(l[from : from+d.next(4-from)])
}

// Places of code are not known while it is drawn: a jump tells how far it goes.
func relink(l []api.Instr) {
	for i, in := range l {
		if in.Op == api.OJump || in.Op == api.OElse {
			l[i].A += i
		}
	}
}

func choose(a, b, c []api.Instr) []api.Instr {
	return slices.Concat(a, code(orElse(len(b)+2)), b, code(jump(len(c)+1)), c)
}

// moveExpr: what may be in a move.
func (d *drawer) moveExpr(f api.Func, depth int) []api.Instr {
	if depth == 0 || d.next(4) == 0 {
		if f.Locals > 0 && d.next(4) > 0 {
			return code(local(d.next(f.Locals)))
		}
		return code(constant(d.plain()))
	}
	sub := func() []api.Instr { return d.moveExpr(f, depth-1) }
	switch d.next(6) {
	case 0:
		return choose(sub(), sub(), sub())
	case 1:
		return slices.Concat(sub(), code(prim(d.oneOf("null?", "pair?", "not", "null?", "pair?", "not", "car", "cdr"))))
	case 2:
		return slices.Concat(sub(), sub(), code(prim(d.oneOf("eq?", "cons", "+"))))
	}
	return slices.Concat(sub(), sub(), code(prim("cons")))
}

func (d *drawer) plain() api.Word {
	return []api.Word{num(d.next(9)), num(1), truth(d.next(2)), null(), sym(d.oneOf("a", "b"))}[d.next(5)]
}

// body of a function: it tells what its last expression leaves.
func (d *drawer) body(f api.Func) []api.Instr {
	l := code(tick)
	for range d.next(3) {
		l = slices.Concat(l, d.statement(f, 3))
	}
	if d.next(3) == 0 {
		l = slices.Concat(l, code(tick), d.callOf(f, 2, tail))
	} else {
		l = slices.Concat(l, d.expr(f, 3), code(ret))
	}
	relink(l)
	return l
}

// statement: it leaves nothing.
func (d *drawer) statement(f api.Func, depth int) []api.Instr {
	switch d.next(5) {
	case 0:
		return slices.Concat(d.expr(f, depth), code(assign(d.oneOf("x", "y", "z"))))
	case 1:
		if f.Locals > 0 {
			return slices.Concat(d.expr(f, depth), code(store(d.next(f.Locals))))
		}
	case 2:
		return slices.Concat(d.boxExpr(f, depth), d.expr(f, depth-1), code(filled))
	}
	return slices.Concat(d.expr(f, depth), code(pop))
}

// expr: it leaves one value.
func (d *drawer) expr(f api.Func, depth int) []api.Instr {
	if depth <= 0 {
		return d.leaf(f)
	}
	sub := func() []api.Instr { return d.expr(f, depth-1) }
	switch d.next(14) {
	case 0:
		return choose(sub(), sub(), sub())
	case 1:
		return slices.Concat(sub(), code(boxed))
	case 2:
		return slices.Concat(d.boxExpr(f, depth-1), code(opened))
	case 3, 4, 5:
		return slices.Concat(sub(), sub(), code(prim(d.oneOf("cons", "cons", "cons", "eq?", "+", "-", "<"))))
	case 6:
		return slices.Concat(sub(), code(prim(d.oneOf("car", "cdr", "null?", "pair?", "not"))))
	case 7:
		return d.closeOf(f, depth)
	case 8:
		return slices.Concat(code(tick), d.callOf(f, depth-1, call))
	case 9, 10:
		return d.makeOf(f, depth)
	case 11:
		return slices.Concat(sub(), code(is(d.oneOf("p", "q"))))
	case 12:
		return slices.Concat(d.recordExpr(f, depth-1), code(d.fieldOf(get)))
	}
	return slices.Concat(d.recordExpr(f, depth-1), sub(), code(d.fieldOf(put)))
}

func (d *drawer) leaf(f api.Func) []api.Instr {
	switch d.next(4) {
	case 0:
		if f.Locals > 0 {
			return code(local(d.next(f.Locals)))
		}
	case 1:
		if f.Capts > 0 {
			return code(capt(d.next(f.Capts)))
		}
	case 2:
		return code(constant(d.plain()))
	}
	return code(global(d.oneOf("x", "y", "z")))
}

// boxExpr: mostly it leaves a box.
func (d *drawer) boxExpr(f api.Func, depth int) []api.Instr {
	if d.next(6) == 0 {
		return d.expr(f, depth-1)
	}
	return slices.Concat(d.expr(f, depth-1), code(boxed))
}

// recordExpr: mostly it leaves a record.
func (d *drawer) recordExpr(f api.Func, depth int) []api.Instr {
	switch d.next(8) {
	case 0:
		return d.expr(f, depth)
	case 1:
		return d.makeOf(f, depth)
	}
	return code(global(d.oneOf("x", "y")))
}

// fieldOf: mostly one that is there.
func (d *drawer) fieldOf(in func(s, t string) api.Instr) api.Instr {
	r := d.world.Recs[d.next(2)]
	if d.next(4) > 0 {
		r = d.world.Recs[0]
	}
	l := r.Vers[len(r.Vers)-1].Fields
	if len(l) == 0 || d.next(8) == 0 {
		return in(r.Name, d.oneOf("a", "b", "c", ""))
	}
	return in(r.Name, l[d.next(len(l))])
}

func (d *drawer) makeOf(f api.Func, depth int) []api.Instr {
	r := d.world.Recs[d.next(2)]
	n := len(r.Vers[len(r.Vers)-1].Fields)
	if d.next(20) == 0 {
		n = d.next(4)
	}
	var l []api.Instr
	for range n {
		l = append(l, d.expr(f, depth-1)...)
	}
	return append(l, makes(r.Name, n))
}

func (d *drawer) closeOf(f api.Func, depth int) []api.Instr {
	i := d.next(len(d.world.Funcs))
	n := d.world.Funcs[i].Capts
	var l []api.Instr
	for range n {
		l = append(l, d.expr(f, depth-1)...)
	}
	return append(l, closed(i, n))
}

// callOf: mostly of a closure, with as many arguments as it has.
func (d *drawer) callOf(f api.Func, depth int, in func(int) api.Instr) []api.Instr {
	l, n := d.expr(f, depth), d.next(3)
	if d.next(8) > 0 {
		i := len(d.world.Funcs) - 4 + d.next(2)
		l, n = code(closed(i, 0)), d.world.Funcs[i].Params
		if d.next(2) == 0 {
			l = code(global([]string{"f", "g"}[i-len(d.world.Funcs)+4]))
		}
	}
	for range n {
		l = append(l, d.expr(f, depth-1)...)
	}
	return append(l, in(n))
}

// drawHeap: f and g are closures of the first two functions that are no moves,
// x and y mostly records.
func (d *drawer) drawHeap(first int) {
	w := &d.world
	w.Heap.Limit = 50 + d.next(40)
	var starts, records []int
	add := func(l []api.Word) {
		if len(w.Heap.Words)+len(l) <= w.Heap.Limit {
			starts = append(starts, len(w.Heap.Words))
			w.Heap.Words = append(w.Heap.Words, l...)
		}
	}
	value := func() api.Word {
		if len(starts) > 0 && d.next(2) == 0 {
			return ref(starts[d.next(len(starts))])
		}
		return d.plain()
	}
	add(closure(first))
	add(closure(first + 1))
	for range d.next(10) {
		switch d.next(7) {
		case 0:
			add(pair(value(), value()))
		case 1:
			add(box(value()))
		case 2:
			add(closure(first+3, value(), value()))
		case 3:
			if len(records) > 0 { // back: few of these may be moved on
				add(moved(records[d.next(len(records))], null()))
			}
		default:
			i := d.next(2)
			version := d.next(len(w.Recs[i].Vers))
			var l []api.Word
			for range w.Recs[i].Vers[version].Fields {
				l = append(l, value())
			}
			at := len(w.Heap.Words)
			if d.next(6) == 0 { // one ahead that was moved to it
				at += 4
				add(moved(at, num(99)))
			}
			if add(record(i, version, l...)); len(w.Heap.Words) > at {
				records = append(records, at)
			}
		}
	}
	w.Globs[3].Value, w.Globs[4].Value = ref(0), ref(2)
	for i := range 3 {
		w.Globs[i].Value = value()
		if i < 2 && len(records) > 0 && d.next(8) > 0 {
			w.Globs[i].Value = ref(records[d.next(len(records))])
		}
	}
}

// agree: the same comes of both.
func agree(t *testing.T, what string, got, want outcome) {
	t.Helper()
	if got.code != want.code || got.value != want.value || !same(got.world, want.world) {
		t.Errorf("%s: %v %v %v %v,\nwant %v %v %v %v", what, got.code, got.value, got.world.Globs, got.world.Heap, want.code, want.value, want.world.Globs, want.world.Heap)
	}
	if got.code == api.OK && vm.Check(got.world) != api.OK {
		t.Errorf("%s: the world may not be then: %v", what, short(got.world))
	}
}

// Drawn worlds: all calls answer as a plain reading has it, one behind the
// other.
func TestDrawnWorlds(t *testing.T) {
	codes := map[api.Errno]int{}
	collected, brought := 0, 0
	for i := range 3000 {
		next := newDice(i)
		d := drawnWorld(next)
		w := d.world
		if vm.Check(w) != api.OK {
			if heap.Check(w.Heap) == api.OK {
				t.Fatal("world", i, short(w))
			}
			continue
		}
		for range 6 {
			got, want := d.act(w)
			agree(t, "world "+text(i), got, want)
			codes[got.code]++
			if got.code == api.OK {
				if len(got.world.Heap.Words) < len(w.Heap.Words) {
					collected++
				}
				if countOf(got.world.Heap.Words, api.Moved) > countOf(w.Heap.Words, api.Moved) {
					brought++
				}
				w = got.world
			}
		}
		if t.Failed() {
			t.FailNow()
		}
	}
	for _, e := range []api.Errno{api.OK, api.ErrKind, api.ErrForm, api.ErrCount, api.ErrFuel, api.ErrRoom, api.ErrField} {
		if codes[e] < 50 {
			t.Error("too few of", e, codes)
		}
	}
	if codes[api.OK] < 5000 || collected < 500 || brought < 300 {
		t.Error(codes, collected, brought)
	}
}

// countOf: how many heads of a kind there are.
func countOf(l []api.Word, kind int) int {
	n := 0
	for at := 0; at < len(l); at += sizeAt(l, at) {
		if l[at].Kind == kind {
			n++
		}
	}
	return n
}

// act: a call, of the machine and of the model.
func (d *drawer) act(w api.World) (outcome, outcome) {
	d.world = w
	fuel := d.next(60)
	x := ref(d.next(len(w.Heap.Words) + 3))
	if d.next(4) > 0 {
		x = w.Globs[d.next(5)].Value
	}
	switch d.next(7) {
	case 0:
		return of(vm.Touch(w, x)), touched(w, x)
	case 1:
		return of(vm.Settle(w, x)), settled(w, x)
	case 2:
		front, values := d.thing(x)
		return of(vm.Put(w, front, values)), putOn(w, front, values)
	case 3, 4:
		callee, n := w.Globs[3].Value, d.world.Funcs[len(w.Funcs)-4].Params
		if d.next(8) == 0 {
			callee, n = x, d.next(3)
		}
		args := slices.Repeat(words(x), n)
		return of(vm.Call(w, callee, args, fuel)), called(w, callee, args, fuel)
	}
	f := api.Func{Locals: d.next(3)}
	f.Code = d.body(f)
	if d.next(10) == 0 {
		f.Code[d.next(len(f.Code))] = d.instr()
	}
	return of(vm.Run(w, f, fuel)), ran(w, f, fuel)
}

// thing to be put.
func (d *drawer) thing(x api.Word) (front, values []api.Word) {
	l := [][]api.Word{pair(x, d.plain()), box(x), closure(len(d.world.Funcs)-2+d.next(3), x), record(d.next(2), d.next(3), x), moved(0, x), nil}[d.next(6)]
	n := len(l) - min(len(l), 1+d.next(2))
	return l[:n], l[n:]
}

// instr: any one.
func (d *drawer) instr() api.Instr {
	return api.Instr{
		Op: d.next(24), A: d.next(8) - 1, B: d.next(3), S: d.oneOf("x", "f", "p", "q", "car", "cons", "eq?", "not", "n"), T: d.oneOf("a", "b", ""),
		W: d.plain(),
	}
}

// mayRun: may a function be, in a world, without params and values from around
// it? Each way is gone for itself.
func mayRun(w api.World, f api.Func) bool {
	if f.Params != 0 || f.Capts != 0 || f.Locals < 0 || f.Locals > 40 || len(f.Code) == 0 || len(f.Code) > 6000 || f.Code[0].Op != api.OTick {
		return false
	}
	for _, in := range f.Code {
		if !mayBeIn(w, f, in) {
			return false
		}
	}
	heights := map[int]int{}
	var walk func(at, height int) bool
	walk = func(at, height int) bool {
		if at >= len(f.Code) {
			return false
		}
		if h, ok := heights[at]; ok {
			return h == height
		}
		heights[at] = height
		in := f.Code[at]
		takes, leaves := takesAndLeaves(in)
		if takes > height {
			return false
		}
		height += leaves - takes
		switch in.Op {
		case api.OReturn, api.OTail:
			return true
		case api.OJump:
			return in.A > at && walk(in.A, height)
		case api.OElse:
			return in.A > at && walk(in.A, height) && walk(at+1, height)
		}
		return walk(at+1, height)
	}
	return walk(0, 0)
}

func takesAndLeaves(in api.Instr) (int, int) {
	switch in.Op {
	case api.OTick, api.OJump:
		return 0, 0
	case api.OConst, api.OLocal, api.OCapt, api.OGlobal:
		return 0, 1
	case api.OStore, api.OAssign, api.OReturn, api.OPop, api.OElse:
		return 1, 0
	case api.OFill:
		return 2, 0
	case api.OClose:
		return in.B, 1
	case api.OCall, api.OTail:
		return in.A + 1, 1
	case api.OPrim, api.OMake:
		return in.A, 1
	case api.OPut:
		return 2, 1
	}
	return 1, 1
}

func mayBeIn(w api.World, f api.Func, in api.Instr) bool {
	isGlobal := slices.ContainsFunc(w.Globs, func(g api.Glob) bool { return g.Name == in.S })
	isRecord := slices.ContainsFunc(w.Recs, func(r api.Rec) bool { return r.Name == in.S })
	upTo := func(n, most int) bool { return n >= 0 && n <= most }
	switch in.Op {
	case api.OTick, api.OConst, api.OBox, api.OOpen, api.OFill, api.OReturn, api.OPop: // W is a value, as it is drawn
		return true
	case api.OLocal, api.OStore:
		return upTo(in.A, f.Locals-1)
	case api.OGlobal, api.OAssign:
		return isGlobal
	case api.OClose:
		return upTo(in.A, len(w.Funcs)-1) && w.Funcs[in.A].Capts == in.B
	case api.OCall, api.OTail:
		return upTo(in.A, 6)
	case api.OJump, api.OElse:
		return upTo(in.A, len(f.Code)-1)
	case api.OPrim:
		ones, twos := " car cdr null? pair? not error ", " + - * quotient remainder = < cons eq? "
		return in.A == 1 && strings.Contains(ones, " "+in.S+" ") || in.A == 2 && strings.Contains(twos, " "+in.S+" ")
	case api.OMake:
		return isRecord && upTo(in.A, 6)
	case api.OIs, api.OGet, api.OPut:
		return isRecord
	}
	return false
}

// Functions that are drawn instruction by instruction: they may be, or not, as
// a plain reading has it; what may be is run as that has it.
func TestDrawnCode(t *testing.T) {
	var worlds []*drawer
	for i := range 50 {
		if d := drawnWorld(newDice(i)); vm.Check(d.world) == api.OK {
			worlds = append(worlds, d)
		}
	}
	codes := map[api.Errno]int{}
	for i := range 15000 {
		d := worlds[i%len(worlds)]
		d.next = newDice(i)
		f := api.Func{Locals: 2, Code: code(tick, constant(truth(0)), global("x"), constant(num(1)))}
		for range 1 + d.next(4) {
			f.Code = append(f.Code, d.instr())
		}
		if d.next(4) > 0 {
			f.Code = append(f.Code, ret)
		}
		got := of(vm.Run(d.world, f, 20))
		agree(t, "code "+text(i), got, ran(d.world, f, 20))
		codes[got.code]++
		if t.Failed() {
			t.FailNow()
		}
	}
	if codes[api.OK] < 1000 || codes[api.ErrKind] < 100 || codes[api.ErrForm] < 5000 {
		t.Error(codes)
	}
}

// Worlds in which one thing is another: nothing panics, and what may not be is
// refused by all.
func TestDrawnWrongs(t *testing.T) {
	for i := range 5000 {
		next := newDice(i)
		d := drawnWorld(next)
		d.spoil()
		e := vm.Check(d.world)
		if got := of(vm.Touch(d.world, null())); got.code != e || e != api.OK && e != api.ErrState {
			t.Fatal(i, e, got.code)
		}
		if e == api.OK {
			agree(t, "world "+text(i), of(vm.Settle(d.world, null())), settled(d.world, null()))
		}
		of(vm.Call(d.world, ref(next(9)-1), words(ref(next(9)-1)), next(9)))
		of(vm.Run(d.world, api.Func{Code: code(tick, d.instr(), d.instr(), ret)}, next(9)))
		of(vm.Put(d.world, words(ref(next(9)-1)), words(ref(next(9)-1))))
	}
}

// spoil one thing of the world, somewhere.
func (d *drawer) spoil() {
	w := &d.world
	number := []int{-1, 0, 1, 2, 3, 7, 40, 1 << 62, -1 << 63}[d.next(9)]
	f := &w.Funcs[d.next(len(w.Funcs))]
	r := &w.Recs[d.next(2)]
	s := &r.Vers[d.next(len(r.Vers))]
	switch d.next(12) {
	case 0:
		f.Params = number
	case 1:
		f.Locals = number
	case 2:
		f.Capts = number
	case 3:
		f.Code[d.next(len(f.Code))] = d.instr()
	case 4:
		f.Code = f.Code[:d.next(len(f.Code))]
	case 5:
		w.Globs[d.next(5)].Value = ref(number)
	case 6:
		w.Heap.Words[d.next(len(w.Heap.Words))].N = number
	case 7:
		w.Heap.Words[d.next(len(w.Heap.Words))].Kind = number
	case 8:
		s.Fields = append(s.Fields, "z")
	case 9:
		r.Name = d.oneOf("p", "q", "r", "car", "")
	case 10:
		r.Moves = append(r.Moves, []int{number})
	case 11:
		if len(r.Moves) > 0 {
			l := r.Moves[d.next(len(r.Moves))]
			if len(l) > 0 {
				l[0] = number
			}
		}
	}
}
