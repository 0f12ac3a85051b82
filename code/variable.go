package code

import (
	"slices"

	"graftery/api"
)

// variable: a name that is bound; its value stands in a box, if it must.
type variable struct {
	name  string
	boxed bool
}

// variables that an expression binds in its last argument.
func variables(x api.Expr) []variable {
	body := x.Args[len(x.Args)-1]
	var l []variable
	for _, name := range x.Names {
		l = append(l, variable{name, needsBox(name, body)})
	}
	return l
}

// needsBox: a closure has a copy of what stands in a local; that of a variable
// that changes must be a box, which all who have it share.
func needsBox(name string, body api.Expr) bool {
	u := use{name: name}
	u.look(body, false)
	return u.set && u.captured
}

// use of a variable.
type use struct {
	name     string
	set      bool // does it get another value?
	captured bool // is it used by a function that is in the one that binds it?
}

// look through an expression, which is in such a function or not.
func (u *use) look(x api.Expr, inner bool) {
	set := x.Kind == api.Set && x.N == 1
	if x.S == u.name && (set || x.Kind == api.Local) {
		u.set = u.set || set
		u.captured = u.captured || inner
	}
	for i, a := range x.Args {
		if bindsIn(x, i) && slices.Contains(x.Names, u.name) {
			continue // another one of that name
		}
		u.look(a, inner || x.Kind == api.Lambda)
	}
}

// find a variable: what pushes its value, or the box in which that is.
func (b *builder) find(name string) (push api.Instr, boxed bool) {
	for i, v := range slices.Backward(b.bound) {
		if v.name == name {
			return api.Instr{Op: api.OLocal, A: i}, v.boxed
		}
	}
	i := b.capture(name)
	return api.Instr{Op: api.OCapt, A: i}, b.captured[i].boxed
}

// capture a variable from around the function, once: its place there. While
// the function is built nothing else is bound around it, so that its name is
// enough to tell it.
func (b *builder) capture(name string) int {
	i := slices.IndexFunc(b.captured, func(v variable) bool { return v.name == name })
	if i >= 0 {
		return i
	}
	_, boxed := b.outer.find(name)
	b.captured = append(b.captured, variable{name, boxed})
	return len(b.captured) - 1
}
