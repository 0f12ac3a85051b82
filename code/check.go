package code

import (
	"slices"

	"graftery/api"
	"graftery/read"
	"graftery/unit"
)

// newPrimitives: how many arguments each of them has.
func newPrimitives() map[string]int {
	return map[string]int{
		"+": 2, "-": 2, "*": 2, "quotient": 2, "remainder": 2, "=": 2, "<": 2, "cons": 2, "eq?": 2,
		"car": 1, "cdr": 1, "null?": 1, "pair?": 1, "not": 1, "error": 1,
	}
}

// checker of an expression.
type checker struct {
	primitives map[string]int
	pure       bool // may it do no more than an upgrade?
	olds       int  // how many old fields there are
}

// check an expression with these names bound around it.
func (c checker) check(x api.Expr, bound []string) api.Errno {
	if e := c.checkAlone(x, bound); e != api.OK {
		return e
	}
	for i, a := range x.Args {
		around := bound
		if bindsIn(x, i) {
			around = slices.Concat(bound, x.Names)
			if len(around) > api.MaxLocals {
				return api.ErrSize
			}
		}
		if e := c.check(a, around); e != api.OK {
			return e
		}
	}
	return api.OK
}

// checkAlone checks an expression without what is in it.
func (c checker) checkAlone(x api.Expr, bound []string) api.Errno {
	switch {
	case x.Kind < api.Const || x.Kind > api.Was:
		return api.ErrKind
	case !c.isCounted(x):
		return api.ErrCount
	case !isNamed(x, bound):
		return api.ErrNone
	case x.Kind == api.Const && read.Check(x.Datum) != api.OK:
		return api.ErrForm
	case x.Kind == api.Was && (x.N < 0 || x.N >= c.olds):
		return api.ErrForm
	case c.pure && !isPure(x.Kind):
		return api.ErrPure
	}
	return api.OK
}

// isCounted: has an expression as much of all as its kind has?
func (c checker) isCounted(x api.Expr) bool {
	n := len(x.Args)
	switch x.Kind {
	case api.Const, api.Local, api.Global, api.Was:
		return n == 0
	case api.If:
		return n == 3
	case api.Let:
		return n == len(x.Names)+1 && n <= api.MaxArgs+1
	case api.Lambda:
		return n == 1 && len(x.Names) <= api.MaxArgs
	case api.Begin:
		return n >= 2
	case api.Call:
		return 1 <= n && n <= api.MaxArgs+1
	case api.Prim:
		want, ok := c.primitives[x.S]
		return ok && n == want
	case api.Make:
		return n <= api.MaxFields
	case api.Get:
		return n == 1 && hasField(x)
	case api.Put:
		return n == 2 && hasField(x)
	}
	return n == 1
}

// hasField: has an expression just one name, of a field?
func hasField(x api.Expr) bool {
	return len(x.Names) == 1 && read.Check(api.Datum{Kind: api.DSym, S: x.Names[0]}) == api.OK
}

// isNamed: are the names of an expression such as its kind has?
func isNamed(x api.Expr, bound []string) bool {
	switch x.Kind {
	case api.Local:
		return slices.Contains(bound, x.S)
	case api.Set:
		return x.N == 1 && slices.Contains(bound, x.S) || x.N == 0 && areFree(x.S)
	case api.Global, api.Make, api.Is, api.Get, api.Put:
		return areFree(x.S)
	case api.Let, api.Lambda:
		return areFree(x.Names...)
	}
	return true
}

// areFree: are these names free, and unlike? Those of globals must be, too.
func areFree(names ...string) bool {
	return unit.Check(api.Env{Globals: names}) == api.OK
}

func isPure(kind int) bool {
	return kind == api.Const || kind == api.If || kind == api.Prim || kind == api.Was
}

// bindsIn: are the names of an expression bound in this argument of it?
func bindsIn(x api.Expr, arg int) bool {
	return x.Kind == api.Lambda || x.Kind == api.Let && arg == len(x.Args)-1
}
