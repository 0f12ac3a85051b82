package vm_test

import (
	"slices"

	"graftery/api"
	"graftery/heap"
	"graftery/vm"
)

// model of a machine: the chapter read plainly, step by step, with all of the
// heap done by package heap. Errors are panics.
type model struct {
	world  api.World
	frames []*frame
	fuel   int
	moving bool
}

// frame: a call.
type frame struct {
	itself        api.Word
	locals, stack []api.Word
	code          []api.Instr
	at            int
}

// done: what a model does, in a copy of a world, and what comes of it.
func done(w api.World, fuel int, do func(m *model) api.Word) (o outcome) {
	m := &model{world: vm.Copy(w), fuel: fuel}
	defer func() {
		if e, ok := recover().(api.Errno); ok {
			o = outcome{code: e}
		}
	}()
	x := do(m)
	return outcome{m.world, x, api.OK}
}

// must: the error, if there is one, is that of all.
func must(e api.Errno) {
	if e != api.OK {
		panic(e)
	}
}

func (m *model) find(w api.Word) api.Word {
	w, e := heap.Find(m.world.Heap, w)
	must(e)
	return w
}

// head of what a value is: a zero word, if it is no thing.
func (m *model) head(w api.Word) api.Word {
	if w = m.find(w); w.Kind == api.Ref {
		return m.world.Heap.Words[w.N]
	}
	return api.Word{}
}

func (m *model) part(w api.Word, i int) api.Word {
	x, e := heap.Part(m.world.Heap, w, i)
	must(e)
	return x
}

func (m *model) change(w api.Word, i int, x api.Word) {
	h, e := heap.Change(m.world.Heap, w, i, x)
	must(e)
	m.world.Heap = h
}

// collect: the values are told as they are then.
func (m *model) collect(values []api.Word) []api.Word {
	var places []*api.Word
	for i := range m.world.Globs {
		places = append(places, &m.world.Globs[i].Value)
	}
	for _, f := range m.frames {
		places = append(places, &f.itself)
		for _, l := range [][]api.Word{f.locals, f.stack} {
			for i := range l {
				places = append(places, &l[i])
			}
		}
	}
	values = slices.Clone(values)
	for i := range values {
		places = append(places, &values[i])
	}
	var roots []api.Word
	for _, p := range places {
		roots = append(roots, *p)
	}
	h, roots, e := heap.Collect(m.world.Heap, roots)
	must(e)
	m.world.Heap = h
	for i, p := range places {
		*p = roots[i]
	}
	return values
}

func (m *model) create(front, values []api.Word) api.Word {
	if len(m.world.Heap.Words)+len(front)+len(values) > m.world.Heap.Limit {
		values = m.collect(values)
	}
	h, at, e := heap.Put(m.world.Heap, slices.Concat(front, values))
	must(e)
	m.world.Heap = h
	return ref(at)
}

func (m *model) last() *frame { return m.frames[len(m.frames)-1] }

func (m *model) push(l ...api.Word) { m.last().stack = append(m.last().stack, l...) }

// pops so many values, in the order in which they were pushed.
func (m *model) pops(n int) []api.Word {
	f := m.last()
	l := slices.Clone(f.stack[len(f.stack)-n:])
	f.stack = f.stack[:len(f.stack)-n]
	return l
}

func (m *model) pop() api.Word { return m.pops(1)[0] }

// begin a call.
func (m *model) begin(itself api.Word, f api.Func, args []api.Word) {
	locals := slices.Clone(args)
	for len(locals) < f.Locals {
		locals = append(locals, null())
	}
	m.frames = append(m.frames, &frame{itself: itself, locals: locals, code: f.Code})
}

// tell: what a function tells, that is called now.
func (m *model) tell(itself api.Word, f api.Func, args []api.Word) api.Word {
	waiting := len(m.frames)
	m.begin(itself, f, args)
	for {
		if x, ok := m.step(); ok {
			m.frames = m.frames[:len(m.frames)-1]
			if len(m.frames) == waiting {
				return x
			}
			m.push(x)
		}
	}
}

// closureOf what is called with so many arguments.
func (m *model) closureOf(w api.Word, args int) api.Func {
	head := m.head(w)
	if head.Kind != api.Closure {
		panic(api.ErrKind)
	}
	f := m.world.Funcs[head.N]
	if f.Params != args {
		panic(api.ErrCount)
	}
	return f
}

func (m *model) record(name string) int {
	return slices.IndexFunc(m.world.Recs, func(r api.Rec) bool { return r.Name == name })
}

func (m *model) now(place int) (int, api.Shape) {
	l := m.world.Recs[place].Vers
	return len(l) - 1, l[len(l)-1]
}

// bringUp the record on top of the stack.
func (m *model) bringUp() {
	f := m.last()
	top := len(f.stack) - 1
	for {
		f.stack[top] = m.find(f.stack[top])
		at := f.stack[top].N
		place, version := m.world.Heap.Words[at].N, m.world.Heap.Words[at+1].N
		if last, _ := m.now(place); version == last {
			return
		}
		moves := m.world.Recs[place].Moves[version]
		for _, i := range moves {
			at, olds := f.stack[top].N, m.world.Funcs[i].Params
			m.moving = true
			m.push(m.tell(null(), m.world.Funcs[i], m.world.Heap.Words[at+3:at+3+olds]))
			m.moving = false
		}
		w := m.create(record(place, version+1, slices.Repeat(words(null()), len(moves))...)[:3], m.pops(len(moves)))
		h, e := heap.Move(m.world.Heap, m.find(f.stack[top]).N, w.N)
		must(e)
		m.world.Heap = h
	}
}

// fieldOf the record on top, which is brought up: its place.
func (m *model) fieldOf(name, field string) int {
	f := m.last()
	head := m.head(f.stack[len(f.stack)-1])
	if head.Kind != api.Record || head.N != m.record(name) {
		panic(api.ErrKind)
	}
	m.bringUp()
	_, s := m.now(head.N)
	i := slices.Index(s.Fields, field)
	if i < 0 {
		panic(api.ErrField)
	}
	return i
}

// step: an instruction; what the call tells, if it ends.
func (m *model) step() (api.Word, bool) {
	f := m.last()
	in := f.code[f.at]
	f.at++
	switch in.Op {
	case api.OTick:
		if !m.moving {
			if m.fuel == 0 {
				panic(api.ErrFuel)
			}
			m.fuel--
		}
	case api.OConst:
		m.push(in.W)
	case api.OLocal:
		m.push(f.locals[in.A])
	case api.OStore:
		f.locals[in.A] = m.pop()
	case api.OCapt:
		m.push(m.part(f.itself, in.A))
	case api.OGlobal, api.OAssign:
		i := slices.IndexFunc(m.world.Globs, func(g api.Glob) bool { return g.Name == in.S })
		if in.Op == api.OGlobal {
			m.push(m.world.Globs[i].Value)
		} else {
			m.world.Globs[i].Value = m.pop()
		}
	case api.OReturn:
		return m.pop(), true
	case api.OJump:
		f.at = in.A
	case api.OElse:
		if m.pop() == truth(0) {
			f.at = in.A
		}
	case api.OPop:
		m.pop()
	case api.OCall, api.OTail:
		l := m.pops(in.A + 1)
		g := m.closureOf(l[0], in.A)
		if in.Op == api.OTail {
			m.frames = m.frames[:len(m.frames)-1]
		} else if len(m.frames) == 100 {
			panic(api.ErrDeep)
		}
		m.begin(m.find(l[0]), g, l[1:])
	default:
		m.stepHeap(in)
	}
	return api.Word{}, false
}

// stepHeap: an instruction for which the heap is asked.
func (m *model) stepHeap(in api.Instr) {
	switch in.Op {
	case api.OBox:
		m.push(m.create(box(null())[:1], m.pops(1)))
	case api.OOpen:
		w := m.pop()
		if m.head(w).Kind != api.Box {
			panic(api.ErrKind)
		}
		m.push(m.part(w, 0))
	case api.OFill:
		l := m.pops(2)
		if m.head(l[0]).Kind != api.Box {
			panic(api.ErrKind)
		}
		m.change(l[0], 0, l[1])
	case api.OClose:
		m.push(m.create(words(api.Word{Kind: api.Closure, N: in.A}, num(in.B)), m.pops(in.B)))
	case api.OPrim:
		l := m.pops(in.A)
		for i, w := range l {
			l[i] = m.find(w)
		}
		m.push(m.prim(in.S, l))
	case api.OMake:
		place := m.record(in.S)
		version, s := m.now(place)
		if len(s.Fields) != in.A {
			panic(api.ErrCount)
		}
		m.push(m.create(words(api.Word{Kind: api.Record, N: place}, num(version), num(in.A)), m.pops(in.A)))
	case api.OIs:
		m.push(yes(m.head(m.pop()) == api.Word{Kind: api.Record, N: m.record(in.S)}))
	case api.OGet:
		i := m.fieldOf(in.S, in.T)
		m.push(m.part(m.pop(), i))
	case api.OPut:
		l := m.pops(2)
		m.push(l[1], l[0])
		i := m.fieldOf(in.S, in.T)
		l = m.pops(2)
		m.change(l[1], i, l[0])
		m.push(l[0])
	}
}

func yes(b bool) api.Word {
	if b {
		return truth(1)
	}
	return truth(0)
}

func (m *model) prim(s string, l []api.Word) api.Word {
	switch s {
	case "cons":
		return m.create(pair(null(), null())[:1], l)
	case "eq?":
		return yes(l[0] == l[1])
	case "car", "cdr":
		if m.head(l[0]).Kind != api.Pair {
			panic(api.ErrKind)
		}
		return m.part(l[0], map[string]int{"car": 0, "cdr": 1}[s])
	case "null?":
		return yes(l[0] == null())
	case "pair?":
		return yes(m.head(l[0]).Kind == api.Pair)
	case "not":
		return yes(l[0] == truth(0))
	case "error":
		panic(api.ErrRaise)
	}
	if l[0].Kind != api.Int || l[1].Kind != api.Int {
		panic(api.ErrKind)
	}
	a, b := l[0].N, l[1].N
	if (s == "quotient" || s == "remainder") && b == 0 {
		panic(api.ErrRange)
	}
	n := 0
	switch s {
	case "=":
		return yes(a == b)
	case "<":
		return yes(a < b)
	case "+":
		n = a + b
	case "-":
		n = a - b
	case "*": // the drawn ones are small
		n = a * b
	case "quotient":
		n = a / b
	case "remainder":
		n = a % b
	}
	if n < -api.MaxInt || n > api.MaxInt {
		panic(api.ErrRange)
	}
	return num(n)
}

// values: all of them must be some on the heap.
func (m *model) values(l ...api.Word) {
	for _, w := range l {
		must(heap.CheckValue(m.world.Heap, w))
	}
}

func called(w api.World, callee api.Word, args []api.Word, fuel int) outcome {
	return done(w, fuel, func(m *model) api.Word {
		m.values(append(words(callee), args...)...)
		return m.tell(m.find(callee), m.closureOf(callee, len(args)), args)
	})
}

func ran(w api.World, f api.Func, fuel int) outcome {
	return done(w, fuel, func(m *model) api.Word {
		if !mayRun(w, f) {
			panic(api.ErrForm)
		}
		return m.tell(null(), f, nil)
	})
}

func touched(w api.World, x api.Word) outcome {
	return done(w, 0, func(m *model) api.Word {
		m.values(x)
		m.begin(null(), api.Func{}, nil)
		m.push(m.find(x))
		if m.head(x).Kind == api.Record {
			m.bringUp()
		}
		return m.find(m.pop())
	})
}

func settled(w api.World, x api.Word) outcome {
	return done(w, 0, func(m *model) api.Word {
		m.values(x)
		m.begin(null(), api.Func{}, nil)
		m.push(x)
		m.collect(nil)
		for {
			at := m.firstOld()
			if at < 0 {
				return m.find(m.pop())
			}
			m.push(ref(at))
			m.bringUp()
			m.pop()
		}
	})
}

// firstOld: where the first record begins whose version is not the one that is
// now; -1: there is none.
func (m *model) firstOld() int {
	l := m.world.Heap.Words
	for at := 0; at < len(l); at += sizeAt(l, at) {
		if l[at].Kind != api.Record {
			continue
		}
		if last, _ := m.now(l[at].N); l[at+1].N != last {
			return at
		}
	}
	return -1
}

// sizeAt: how many words the thing at a place has.
func sizeAt(l []api.Word, at int) int {
	switch l[at].Kind {
	case api.Pair:
		return 3
	case api.Box:
		return 2
	case api.Closure:
		return 2 + l[at+1].N
	}
	return 3 + l[at+2].N
}

func putOn(w api.World, front, values []api.Word) outcome {
	return done(w, 0, func(m *model) api.Word {
		m.values(values...)
		x := m.create(front, values)
		if vm.Check(m.world) != api.OK {
			panic(api.ErrForm)
		}
		return x
	})
}
