package graft_test

import (
	"slices"

	"graftery/api"
	"graftery/code"
	"graftery/heap"
	"graftery/unit"
	"graftery/vm"
)

// model of Graft: the chapter, word by word, whatever it costs.
type model struct {
	w   api.World
	u   api.Unit
	old api.World // that was handed in
}

func (m *model) graft() (api.World, api.Errno) {
	if e := vm.Check(m.w); e != api.OK {
		return api.World{}, e
	}
	m.old = m.w
	m.w = vm.Copy(m.w)
	for _, f := range []func() api.Errno{m.first, m.records, m.definitions, m.trial, m.values} {
		if e := f(); e != api.OK {
			return api.World{}, e
		}
	}
	return m.w, api.OK
}

// P6.2
func (m *model) first() api.Errno {
	for i, s := range m.u.Shapes {
		if e := unit.CheckShape(s); e != api.OK {
			return e
		}
		for _, ahead := range m.u.Shapes[:i] {
			if ahead.Name == s.Name {
				return api.ErrTwice
			}
		}
	}
	for i, d := range m.u.Defs {
		if unit.CheckShape(api.Shape{Name: d.Name}) != api.OK {
			return api.ErrForm
		}
		for _, ahead := range m.u.Defs[:i] {
			if ahead.Name == d.Name {
				return api.ErrTwice
			}
		}
		if e := code.Check(d.Expr); e != api.OK {
			return e
		}
	}
	for i, p := range m.u.Upgrades {
		if e := m.firstOf(i, p); e != api.OK {
			return e
		}
	}
	return api.OK
}

func (m *model) firstOf(i int, p api.Upgrade) api.Errno {
	r := slices.IndexFunc(m.old.Recs, func(r api.Rec) bool { return r.Name == p.Name })
	s := slices.IndexFunc(m.u.Shapes, func(s api.Shape) bool { return s.Name == p.Name })
	if r < 0 || s < 0 {
		return api.ErrNone
	}
	for _, ahead := range m.u.Upgrades[:i] {
		if ahead.Name == p.Name {
			return api.ErrTwice
		}
	}
	if len(m.u.Shapes[s].Fields) != len(p.Exprs) {
		return api.ErrCount
	}
	vers := m.old.Recs[r].Vers
	for _, x := range p.Exprs {
		if e := code.CheckMove(x, len(vers[len(vers)-1].Fields)); e != api.OK {
			return e
		}
	}
	return api.OK
}

// P6.3
func (m *model) records() api.Errno {
	for _, s := range m.u.Shapes {
		r := slices.IndexFunc(m.w.Recs, func(r api.Rec) bool { return r.Name == s.Name })
		if r < 0 {
			m.w.Recs = append(m.w.Recs, api.Rec{Name: s.Name, Vers: []api.Shape{s}})
			continue
		}
		vers := m.w.Recs[r].Vers
		if !slices.ContainsFunc(m.u.Upgrades, func(p api.Upgrade) bool { return p.Name == s.Name }) {
			if !slices.Equal(s.Fields, vers[len(vers)-1].Fields) {
				return api.ErrNone
			}
			continue
		}
		if len(vers) >= api.MaxVers {
			return api.ErrSize
		}
		m.w.Recs[r].Vers = append(vers, s)
	}
	if len(m.w.Recs) > api.MaxRecs {
		return api.ErrSize
	}
	for _, p := range m.u.Upgrades {
		r := slices.IndexFunc(m.w.Recs, func(r api.Rec) bool { return r.Name == p.Name })
		vers := m.w.Recs[r].Vers
		var places []int
		for _, x := range p.Exprs {
			f, e := code.Move(x, len(vers[len(vers)-2].Fields))
			if e != api.OK {
				return e
			}
			places = append(places, len(m.w.Funcs))
			m.w.Funcs = append(m.w.Funcs, f)
		}
		m.w.Recs[r].Moves = append(m.w.Recs[r].Moves, places)
	}
	return api.OK
}

// isNew: has the world that was handed in no such global?
func (m *model) isNew(name string) bool { return value(m.old, name) == api.Word{} }

// P6.4
func (m *model) definitions() api.Errno {
	for _, d := range m.u.Defs {
		if m.isNew(d.Name) {
			m.w.Globs = append(m.w.Globs, api.Glob{Name: d.Name, Value: null()})
		}
	}
	for _, d := range m.u.Defs {
		if d.Expr.Kind == api.Lambda || m.isNew(d.Name) {
			l, e := code.Compile(d.Expr, min(len(m.w.Funcs), api.MaxFuncs))
			if e != api.OK {
				return e
			}
			m.w.Funcs = append(m.w.Funcs, l...)
		}
	}
	if len(m.w.Funcs) > api.MaxFuncs || len(m.w.Globs) > api.MaxGlobs {
		return api.ErrSize
	}
	// What a function names that is not there may not be in a world.
	if vm.Check(m.w) != api.OK {
		return api.ErrNone
	}
	return api.OK
}

// P6.5
func (m *model) trial() api.Errno {
	if len(m.u.Upgrades) == 0 {
		return api.OK
	}
	w := vm.Copy(m.w)
	var roots []api.Word
	for _, g := range w.Globs {
		roots = append(roots, g.Value)
	}
	w.Heap, roots, _ = heap.Collect(w.Heap, roots)
	for i := range roots {
		w.Globs[i].Value = roots[i]
	}
	var l []api.Errno
	for at := range w.Heap.Words {
		if heap.CheckValue(w.Heap, ref(at)) == api.OK {
			_, _, e := vm.Touch(w, ref(at))
			l = append(l, e)
		}
	}
	if slices.Contains(l, api.ErrRoom) {
		return api.ErrRoom
	}
	l = slices.DeleteFunc(l, func(e api.Errno) bool { return e == api.OK })
	return slices.Min(append(l, 1000)) % 1000
}

// P6.6
func (m *model) values() api.Errno {
	places := map[string]int{}
	at := len(m.old.Funcs)
	for _, p := range m.u.Upgrades {
		at += len(p.Exprs)
	}
	for _, d := range m.u.Defs {
		if d.Expr.Kind == api.Lambda || m.isNew(d.Name) {
			places[d.Name] = at
			l, _ := code.Compile(d.Expr, at)
			at += len(l)
		}
	}
	for _, lambdas := range []bool{true, false} {
		for _, d := range m.u.Defs {
			if (d.Expr.Kind == api.Lambda) != lambdas || !lambdas && !m.isNew(d.Name) {
				continue
			}
			var w api.World
			var x api.Word
			var e api.Errno
			if lambdas {
				w, x, e = vm.Put(m.w, []api.Word{{Kind: api.Closure, N: places[d.Name]}}, []api.Word{number(0)})
			} else {
				w, x, e = vm.Run(m.w, m.w.Funcs[places[d.Name]], api.MaxFuel)
			}
			if e != api.OK {
				return e
			}
			m.w = w
			i := slices.IndexFunc(w.Globs, func(g api.Glob) bool { return g.Name == d.Name })
			m.w.Globs[i].Value = x
		}
	}
	return api.OK
}
