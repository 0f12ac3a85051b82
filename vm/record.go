package vm

import (
	"slices"

	"graftery/api"
)

// recordFront: what stands ahead of the values of a record.
func recordFront(place, version, values int) []api.Word {
	return []api.Word{{Kind: api.Record, N: place}, number(version), number(values)}
}

// lastVersion of the record at a place: the one that is now.
func (m *machine) lastVersion(place int) int { return len(m.view.world.Recs[place].Vers) - 1 }

// isRecord: is a value one of the record at a place, of whatever version?
func (m *machine) isRecord(w api.Word, place int) bool {
	w = m.heap.find(w)
	return m.heap.is(w, api.Record) && m.heap.words[w.N].N == place
}

// isOld: does a Record begin at an address whose version is not the one that
// is now?
func (m *machine) isOld(at int) bool {
	l := m.heap.words
	return l[at].Kind == api.Record && l[at+1].N < m.lastVersion(l[at].N)
}

// bringUp the Record on top.
func (m *machine) bringUp() api.Errno {
	at := len(m.values) - 1
	m.values[at] = m.heap.find(m.values[at])
	for m.isOld(m.values[at].N) {
		if e := m.bringOn(at); e != api.OK {
			return e
		}
	}
	return api.OK
}

// bringOn the Record on top, whose place among the values is told, to its next
// version.
func (m *machine) bringOn(at int) api.Errno {
	head := m.values[at].N
	place, version := m.heap.words[head].N, m.heap.words[head+1].N
	moves := m.view.world.Recs[place].Moves[version]
	for _, f := range moves {
		if e := m.makeField(at, m.view.world.Funcs[f]); e != api.OK {
			return e
		}
	}
	if e := m.build(recordFront(place, version+1, len(moves)), len(moves)); e != api.OK {
		return e
	}
	now := m.pop()
	// The heap may have been collected: where the old one is only the stack knows.
	if e := m.heap.move(m.values[at].N, now.N); e != api.OK {
		return e
	}
	m.values[at] = now
	return api.OK
}

// makeField: what a function tells of the values of a Record is pushed. Its
// calls are no calls of the program's: they cost no fuel, and are never too deep.
func (m *machine) makeField(at int, f api.Func) api.Errno {
	m.push(null())
	m.push(m.heap.values(m.values[at].N)...)
	calls := len(m.calls)
	m.begin(f)
	m.moving = true
	e := m.run(calls)
	m.moving = false
	return e
}

func (m *machine) makeRecord(place, values int) api.Errno {
	version := m.lastVersion(place)
	if values != len(m.view.world.Recs[place].Vers[version].Fields) {
		return api.ErrCount
	}
	return m.build(recordFront(place, version, values), values)
}

// field of the Record on top, which is brought up, and popped: where it stands.
func (m *machine) field(place int, name string) (*api.Word, api.Errno) {
	if !m.isRecord(m.top(), place) {
		return nil, api.ErrKind
	}
	if e := m.bringUp(); e != api.OK {
		return nil, e
	}
	i := slices.Index(m.view.world.Recs[place].Vers[m.lastVersion(place)].Fields, name)
	if i < 0 {
		return nil, api.ErrField
	}
	return &m.heap.values(m.pop().N)[i], api.OK
}

func (m *machine) get(place int, name string) api.Errno {
	w, e := m.field(place, name)
	if e != api.OK {
		return e
	}
	m.push(*w)
	return api.OK
}

// put the value on top into a field of the Record below it; the value is left.
func (m *machine) put(place int, name string) api.Errno {
	n := len(m.values)
	m.values[n-2], m.values[n-1] = m.values[n-1], m.values[n-2]
	w, e := m.field(place, name)
	if e != api.OK {
		return e
	}
	*w = m.top()
	return api.OK
}

// touch the value that is left.
func (m *machine) touch() api.Errno {
	w := m.heap.find(m.pop())
	m.push(w)
	if !m.heap.is(w, api.Record) {
		return api.OK
	}
	return m.bringUp()
}

// settle: all records are brought up; the value that is left stays so.
func (m *machine) settle() api.Errno {
	m.collect()
	collects := m.heap.collects
	for at := 0; at < len(m.heap.words); {
		if !m.isOld(at) {
			_, at = sides(m.heap.words, at)
			continue
		}
		m.push(refTo(at))
		if e := m.bringUp(); e != api.OK {
			return e
		}
		m.pop()
		// Ahead of here none is old, unless all of them stand elsewhere now.
		if m.heap.collects != collects {
			at, collects = 0, m.heap.collects
		}
	}
	w := m.heap.find(m.pop())
	m.push(w)
	return api.OK
}
