package unit

import (
	"slices"

	"graftery/api"
)

// outline of a unit: what its top forms tell, but for their expressions, so
// that these know all of it.
type outline struct {
	words   words
	shapes  []api.Shape    // of the unit
	records map[string]int // of the unit and of the environment: toldAhead or toldHere
	globals map[string]int // so
}

// Where a name was told; 0: nowhere.
const (
	toldAhead = 1 // by the environment
	toldHere  = 2 // by the unit
)

func newOutline(w words, v api.Env) *outline {
	o := &outline{words: w, records: map[string]int{}, globals: map[string]int{}}
	for _, s := range v.Globals {
		o.globals[s] = toldAhead
	}
	for _, s := range v.Shapes {
		o.records[s.Name] = toldAhead
	}
	return o
}

// addAll top forms; the place of the first one that is wrong, or behind all,
// if there are too many.
func (o *outline) addAll(l []api.Datum) (int, api.Errno) {
	for i, d := range l {
		if e := o.add(d); e != api.OK {
			return i, e
		}
	}
	if len(o.globals) > api.MaxGlobs || len(o.records) > api.MaxRecs {
		return len(l), api.ErrSize
	}
	return 0, api.OK
}

func (o *outline) add(d api.Datum) api.Errno {
	if len(d.Items) < 2 {
		return api.ErrForm
	}
	switch o.words.keywords[d.Items[0].S] {
	case keyRecord:
		return o.addRecord(d.Items[1], d.Items[2:])
	case keyDefine:
		return o.addDefinition(d.Items[1], d.Items[2:])
	case keyUpgrade:
		return api.OK
	}
	return api.ErrForm
}

func (o *outline) addRecord(name api.Datum, fields []api.Datum) api.Errno {
	if !o.words.isFreeName(name) || slices.ContainsFunc(fields, isNoName) {
		return api.ErrForm
	}
	s := api.Shape{Name: name.S, Fields: texts(fields)}
	if e := o.words.checkShape(s); e != api.OK {
		return e
	}
	if o.records[s.Name] == toldHere {
		return api.ErrTwice
	}
	o.records[s.Name] = toldHere
	o.shapes = append(o.shapes, s)
	return api.OK
}

func (o *outline) addDefinition(what api.Datum, rest []api.Datum) api.Errno {
	name := what
	if what.Kind == api.DList {
		if len(what.Items) == 0 {
			return api.ErrForm
		}
		name = what.Items[0]
	}
	if !o.words.isFreeName(name) || len(rest) == 0 || len(rest) > 1 && what.Kind != api.DList {
		return api.ErrForm
	}
	if o.globals[name.S] == toldHere {
		return api.ErrTwice
	}
	o.globals[name.S] = toldHere
	return api.OK
}

func isNoName(d api.Datum) bool { return d.Kind != api.DSym }

// texts of data that are names.
func texts(l []api.Datum) []string {
	var names []string
	for _, d := range l {
		names = append(names, d.S)
	}
	return names
}
