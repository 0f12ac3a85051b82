package vm

import (
	"slices"

	"graftery/api"
)

// call of a function, at work.
type call struct {
	code []api.Instr
	at   int // of the instruction that is next
	base int // where its values begin
}

// machine: a world at work.
type machine struct {
	view    view
	globals []api.Word
	heap    *store
	calls   []call
	// The values of all calls, from the first one on: itself, its locals, its
	// stack. So a call's arguments become locals where they stand, and when the
	// heap is collected these are the roots behind the globals, in their order:
	// what is about to be popped for something new is the last of them.
	values []api.Word
	fuel   int
	moving bool // a field is made of old ones: that costs no fuel
}

func newMachine(w api.World, v view) *machine {
	m := &machine{view: v, heap: newStore(w.Heap)}
	for _, g := range w.Globs {
		m.globals = append(m.globals, g.Value)
	}
	return m
}

// newMachineWith values on the world's heap; ErrKind, if one of them is none.
func newMachineWith(w api.World, l ...api.Word) (*machine, api.Errno) {
	v, e := newView(w)
	if e != api.OK {
		return nil, e
	}
	if !v.areValues(l) {
		return nil, api.ErrKind
	}
	m := newMachine(w, v)
	m.push(l...)
	return m, api.OK
}

// answer of what was done: nothing with an error, else the world, and the
// value that is left.
func (m *machine) answer(e api.Errno) (api.World, api.Word, api.Errno) {
	if e != api.OK {
		return api.World{}, api.Word{}, e
	}
	return m.behind(), m.top(), api.OK
}

// behind all that was done: the world.
func (m *machine) behind() api.World {
	w := m.view.world
	w.Heap = api.Heap{}
	w = Copy(w)
	for i, x := range m.globals {
		w.Globs[i].Value = x
	}
	w.Heap = m.heap.asHeap()
	return w
}

func (m *machine) push(l ...api.Word) { m.values = append(m.values, l...) }

func (m *machine) pop() api.Word {
	w := m.top()
	m.values = m.values[:len(m.values)-1]
	return w
}

func (m *machine) top() api.Word { return m.values[len(m.values)-1] }

func (m *machine) collect() { m.heap.collect(m.globals, m.values) }

// build something new of the values on top, so many, and push a Ref to it.
func (m *machine) build(front []api.Word, values int) api.Errno {
	if !m.heap.hasRoom(len(front) + values) {
		m.collect()
		if !m.heap.hasRoom(len(front) + values) {
			return api.ErrRoom
		}
	}
	rest := len(m.values) - values
	w := m.heap.add(front, m.values[rest:])
	m.values = append(m.values[:rest], w)
	return api.OK
}

// begin a call of what is on top: itself, and as many arguments as the
// function has params.
func (m *machine) begin(f api.Func) {
	m.calls = append(m.calls, call{code: f.Code, base: len(m.values) - f.Params - 1})
	m.push(slices.Repeat([]api.Word{null()}, f.Locals-f.Params)...)
}

// end the last call; what is on top, so many values, stands in its place then.
func (m *machine) end(values int) {
	last := len(m.calls) - 1
	m.values = append(m.values[:m.calls[last].base], m.values[len(m.values)-values:]...)
	m.calls = m.calls[:last]
}

// closure that is called with so many arguments on top: its function.
func (m *machine) closure(args int) (api.Func, api.Errno) {
	w := m.heap.find(m.values[len(m.values)-args-1])
	if !m.heap.is(w, api.Closure) {
		return api.Func{}, api.ErrKind
	}
	f := m.view.world.Funcs[m.heap.words[w.N].N]
	if f.Params != args {
		return api.Func{}, api.ErrCount
	}
	return f, api.OK
}

// beginClosure: a call more, with so many arguments.
func (m *machine) beginClosure(args int) api.Errno {
	f, e := m.closure(args)
	if e != api.OK {
		return e
	}
	if len(m.calls) >= api.MaxCalls {
		return api.ErrDeep
	}
	m.begin(f)
	return api.OK
}

// followClosure: so, in the place of the last call.
func (m *machine) followClosure(args int) api.Errno {
	f, e := m.closure(args)
	if e != api.OK {
		return e
	}
	m.end(args + 1)
	m.begin(f)
	return api.OK
}

// run until there are only so many calls.
func (m *machine) run(calls int) api.Errno {
	for len(m.calls) > calls {
		c := &m.calls[len(m.calls)-1]
		in := c.code[c.at]
		c.at++
		if e := m.do(in, c); e != api.OK {
			return e
		}
	}
	return api.OK
}

func (m *machine) tick() api.Errno {
	if m.moving {
		return api.OK
	}
	if m.fuel == 0 {
		return api.ErrFuel
	}
	m.fuel--
	return api.OK
}
