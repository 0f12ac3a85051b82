package vm

import "graftery/api"

// do an instruction of the last call.
func (m *machine) do(in api.Instr, c *call) api.Errno {
	switch in.Op {
	case api.OTick:
		return m.tick()
	case api.OConst:
		m.push(in.W)
	case api.OLocal:
		m.push(m.values[c.base+1+in.A])
	case api.OStore:
		w := m.pop()
		m.values[c.base+1+in.A] = w
	case api.OCapt:
		m.push(m.heap.values(m.values[c.base].N)[in.A])
	case api.OBox:
		return m.build([]api.Word{{Kind: api.Box}}, 1)
	case api.OOpen:
		return m.open()
	case api.OFill:
		return m.fill()
	case api.OGlobal:
		i, _ := m.view.global(in.S)
		m.push(m.globals[i])
	case api.OAssign:
		i, _ := m.view.global(in.S)
		m.globals[i] = m.pop()
	case api.OClose:
		return m.build([]api.Word{{Kind: api.Closure, N: in.A}, number(in.B)}, in.B)
	case api.OCall:
		return m.beginClosure(in.A)
	case api.OTail:
		return m.followClosure(in.A)
	case api.OReturn:
		m.end(1)
	case api.OJump:
		c.at = in.A
	case api.OElse:
		if isFalse(m.pop()) {
			c.at = in.A
		}
	case api.OPop:
		m.pop()
	case api.OPrim:
		return m.primitive(m.view.primitives[in.S])
	case api.OMake, api.OIs, api.OGet, api.OPut:
		return m.doRecord(in)
	}
	return api.OK
}

// doRecord: an instruction whose S is a record.
func (m *machine) doRecord(in api.Instr) api.Errno {
	place, _ := m.view.record(in.S)
	switch in.Op {
	case api.OMake:
		return m.makeRecord(place, in.A)
	case api.OIs:
		m.push(truth(m.isRecord(m.pop(), place)))
		return api.OK
	case api.OGet:
		return m.get(place, in.T)
	}
	return m.put(place, in.T)
}

func (m *machine) open() api.Errno {
	w := m.heap.find(m.pop())
	if !m.heap.is(w, api.Box) {
		return api.ErrKind
	}
	m.push(m.heap.values(w.N)...)
	return api.OK
}

func (m *machine) fill() api.Errno {
	x := m.pop()
	w := m.heap.find(m.pop())
	if !m.heap.is(w, api.Box) {
		return api.ErrKind
	}
	m.heap.values(w.N)[0] = x
	return api.OK
}
