package unit

import "graftery/api"

// former forms what the top forms of a unit tell.
type former struct {
	words   words
	globals map[string]int                 // that are known: not 0
	old     func(string) (api.Shape, bool) // the record that the environment has
	told    func(string) (api.Shape, bool) // the record that the unit tells
	use     func(string) (use, bool)       // of the records behind the unit
	unit    api.Unit
}

func newFormer(o *outline, v api.Env) *former {
	u := api.Unit{Shapes: o.shapes}
	return &former{
		words:   o.words,
		globals: o.globals,
		old:     finder(v.Shapes),
		told:    finder(o.shapes),
		use:     useFinder(Shapes(v, u)),
		unit:    u,
	}
}

// all top forms; the place of the first one that is wrong.
func (f *former) all(l []api.Datum) (api.Unit, int, api.Errno) {
	for i, d := range l {
		if e := f.top(d.Items); e != api.OK {
			return api.Unit{}, i, e
		}
	}
	return f.unit, 0, api.OK
}

// top form that is as its outline says.
func (f *former) top(l []api.Datum) api.Errno {
	switch f.words.keywords[l[0].S] {
	case keyDefine:
		return f.define(l[1], l[2:])
	case keyUpgrade:
		return f.upgrade(l[1].S, l[2:])
	}
	return api.OK
}

func (f *former) define(what api.Datum, rest []api.Datum) api.Errno {
	name := what.S
	var x api.Expr
	var e api.Errno
	if what.Kind == api.DList {
		name = what.Items[0].S
		x, e = f.lambda(what.Items[1:], rest, nil)
	} else {
		x, e = f.expr(rest[0], nil)
	}
	if e != api.OK {
		return e
	}
	f.unit.Defs = append(f.unit.Defs, api.Def{Name: name, Expr: x})
	return api.OK
}

// upgrade of the record of a name; what is no name comes as an empty text,
// which no record has.
func (f *former) upgrade(name string, l []api.Datum) api.Errno {
	old, ok := f.old(name)
	if !ok {
		return api.ErrNone
	}
	now, ok := f.told(name)
	if !ok {
		return api.ErrNone
	}
	for _, u := range f.unit.Upgrades {
		if u.Name == name {
			return api.ErrTwice
		}
	}
	if len(l) != len(now.Fields) {
		return api.ErrCount
	}
	m := mover{words: f.words, olds: old.Fields}
	x, e := withArgs(api.Expr{}, l, m.expr)
	if e != api.OK {
		return e
	}
	f.unit.Upgrades = append(f.unit.Upgrades, api.Upgrade{Name: name, Exprs: x.Args})
	return api.OK
}
