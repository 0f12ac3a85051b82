package unit

import (
	"slices"
	"strings"

	"graftery/api"
)

// finder finds the record of a name among some.
func finder(l []api.Shape) func(name string) (api.Shape, bool) {
	return func(name string) (api.Shape, bool) {
		i := slices.IndexFunc(l, func(s api.Shape) bool { return s.Name == name })
		if i < 0 {
			return api.Shape{}, false
		}
		return l[i], true
	}
}

// useFinder finds what a name does with the first record, of some, that it is
// made of.
func useFinder(l []api.Shape) func(name string) (use, bool) {
	return func(name string) (use, bool) {
		for _, s := range l {
			if u, ok := useOf(s, name); ok {
				return u, true
			}
		}
		return use{}, false
	}
}

// use of a record: an expression without its arguments, and how many it has.
type use struct {
	expr        api.Expr
	least, most int
}

// useOf a record that a name is made of.
func useOf(s api.Shape, name string) (use, bool) {
	rest, ok := strings.CutPrefix(name, s.Name)
	switch {
	case !ok:
		return use{}, false
	case rest == "":
		return use{api.Expr{Kind: api.Make, S: s.Name}, 0, api.MaxFields}, true
	case rest == "?":
		return use{api.Expr{Kind: api.Is, S: s.Name}, 1, 1}, true
	}
	return fieldUse(s, rest)
}

// fieldUse: what is behind the record's name tells a field. A field whose name
// ends with `!` is got ahead of one without it that is put, whichever of the
// two stands first.
func fieldUse(s api.Shape, rest string) (use, bool) {
	field, ok := strings.CutPrefix(rest, "-")
	if !ok {
		return use{}, false
	}
	if slices.Contains(s.Fields, field) {
		return use{api.Expr{Kind: api.Get, S: s.Name, Names: []string{field}}, 1, 1}, true
	}
	field, ok = strings.CutSuffix(field, "!")
	if ok && slices.Contains(s.Fields, field) {
		return use{api.Expr{Kind: api.Put, S: s.Name, Names: []string{field}}, 2, 2}, true
	}
	return use{}, false
}
