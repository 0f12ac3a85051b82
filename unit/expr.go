package unit

import (
	"slices"

	"graftery/api"
)

// expr: the expression that a datum is, where some names are bound around it.
func (f *former) expr(d api.Datum, bound []string) (api.Expr, api.Errno) {
	switch d.Kind {
	case api.DSym:
		return f.variable(d.S, bound)
	case api.DList:
		return f.list(d.Items, bound)
	}
	return constant(d), api.OK
}

func (f *former) variable(name string, bound []string) (api.Expr, api.Errno) {
	switch {
	case slices.Contains(bound, name):
		return api.Expr{Kind: api.Local, S: name}, api.OK
	case !f.words.isFree(name):
		return api.Expr{}, api.ErrForm
	case f.globals[name] == 0:
		return api.Expr{}, api.ErrNone
	}
	return api.Expr{Kind: api.Global, S: name}, api.OK
}

func (f *former) list(l []api.Datum, bound []string) (api.Expr, api.Errno) {
	if len(l) == 0 {
		return api.Expr{}, api.ErrForm
	}
	head, rest := l[0], l[1:]
	if head.Kind != api.DSym || slices.Contains(bound, head.S) {
		return f.call(l, bound)
	}
	if k := f.words.keywords[head.S]; k != 0 {
		return f.keyword(k, rest, bound)
	}
	if n := f.words.primitives[head.S]; n != 0 {
		return withCount(api.Expr{Kind: api.Prim, S: head.S}, rest, n, n, f.within(bound))
	}
	if f.globals[head.S] != 0 {
		return f.call(l, bound)
	}
	u, ok := f.use(head.S)
	if !ok {
		return api.Expr{}, api.ErrNone
	}
	return withCount(u.expr, rest, u.least, u.most, f.within(bound))
}

func (f *former) call(l []api.Datum, bound []string) (api.Expr, api.Errno) {
	return withCount(api.Expr{Kind: api.Call}, l, 1, api.MaxArgs+1, f.within(bound))
}

// keyword, and what is behind it.
func (f *former) keyword(k int, l []api.Datum, bound []string) (api.Expr, api.Errno) {
	switch k {
	case keyQuote:
		return quote(l)
	case keyIf:
		return ifOf(l, f.within(bound))
	case keyBegin:
		return f.body(l, bound)
	case keySet:
		return f.set(l, bound)
	case keyLambda:
		return f.lambdaOf(l, bound)
	case keyLet:
		return f.let(l, bound)
	}
	return api.Expr{}, api.ErrForm
}

func (f *former) set(l []api.Datum, bound []string) (api.Expr, api.Errno) {
	if len(l) != 2 {
		return api.Expr{}, api.ErrCount
	}
	if isNoName(l[0]) {
		return api.Expr{}, api.ErrForm
	}
	v, e := f.variable(l[0].S, bound)
	if e != api.OK {
		return api.Expr{}, e
	}
	x := api.Expr{Kind: api.Set, S: v.S}
	if v.Kind == api.Local {
		x.N = 1
	}
	return withArgs(x, l[1:], f.within(bound))
}

// lambdaOf what is behind its keyword.
func (f *former) lambdaOf(l []api.Datum, bound []string) (api.Expr, api.Errno) {
	if len(l) < 2 {
		return api.Expr{}, api.ErrCount
	}
	if l[0].Kind != api.DList {
		return api.Expr{}, api.ErrForm
	}
	return f.lambda(l[0].Items, l[1:], bound)
}

func (f *former) lambda(names, body []api.Datum, bound []string) (api.Expr, api.Errno) {
	if e := f.checkNames(names); e != api.OK {
		return api.Expr{}, e
	}
	x := api.Expr{Kind: api.Lambda, Names: texts(names)}
	return f.withBody(x, body, bound)
}

func (f *former) let(l []api.Datum, bound []string) (api.Expr, api.Errno) {
	if len(l) < 2 {
		return api.Expr{}, api.ErrCount
	}
	if l[0].Kind != api.DList || slices.ContainsFunc(l[0].Items, isNoBinding) {
		return api.Expr{}, api.ErrForm
	}
	var names, values []api.Datum
	for _, b := range l[0].Items {
		names, values = append(names, b.Items[0]), append(values, b.Items[1])
	}
	if e := f.checkNames(names); e != api.OK {
		return api.Expr{}, e
	}
	x, e := withArgs(api.Expr{Kind: api.Let, Names: texts(names)}, values, f.within(bound))
	if e != api.OK {
		return api.Expr{}, e
	}
	return f.withBody(x, l[1:], bound)
}

func isNoBinding(d api.Datum) bool { return len(d.Items) != 2 }

// checkNames: may these be bound together?
func (f *former) checkNames(l []api.Datum) api.Errno {
	if len(l) > api.MaxArgs {
		return api.ErrCount
	}
	for i, d := range l {
		if !f.words.isFreeName(d) {
			return api.ErrForm
		}
		if slices.Contains(texts(l[:i]), d.S) {
			return api.ErrTwice
		}
	}
	return api.OK
}

// withBody: the expression that binds its Names in a body, with that as its
// last argument.
func (f *former) withBody(x api.Expr, l []api.Datum, bound []string) (api.Expr, api.Errno) {
	b, e := f.body(l, slices.Concat(bound, x.Names))
	if e != api.OK {
		return api.Expr{}, e
	}
	x.Args = append(x.Args, b)
	return x, api.OK
}

func (f *former) body(l []api.Datum, bound []string) (api.Expr, api.Errno) {
	switch {
	case len(l) == 0:
		return api.Expr{}, api.ErrCount
	case len(bound) > api.MaxLocals:
		return api.Expr{}, api.ErrSize
	case len(l) == 1:
		return f.expr(l[0], bound)
	}
	return withArgs(api.Expr{Kind: api.Begin}, l, f.within(bound))
}

// within: how data are formed where these names are bound.
func (f *former) within(bound []string) forming {
	return func(d api.Datum) (api.Expr, api.Errno) { return f.expr(d, bound) }
}
