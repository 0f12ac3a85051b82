package unit

import "graftery/api"

// forming: how a datum becomes an expression.
type forming func(api.Datum) (api.Expr, api.Errno)

// withArgs: an expression with those of data as its further arguments.
func withArgs(x api.Expr, l []api.Datum, form forming) (api.Expr, api.Errno) {
	for _, d := range l {
		a, e := form(d)
		if e != api.OK {
			return api.Expr{}, e
		}
		x.Args = append(x.Args, a)
	}
	return x, api.OK
}

// withCount: so, of at least and at most so many data.
func withCount(x api.Expr, l []api.Datum, least, most int, form forming) (api.Expr, api.Errno) {
	if len(l) < least || len(l) > most {
		return api.Expr{}, api.ErrCount
	}
	return withArgs(x, l, form)
}

// quote: what is behind its keyword.
func quote(l []api.Datum) (api.Expr, api.Errno) {
	if len(l) != 1 {
		return api.Expr{}, api.ErrCount
	}
	return constant(l[0]), api.OK
}

// ifOf what is behind its keyword.
func ifOf(l []api.Datum, form forming) (api.Expr, api.Errno) {
	return withCount(api.Expr{Kind: api.If}, l, 3, 3, form)
}

func constant(d api.Datum) api.Expr { return api.Expr{Kind: api.Const, Datum: copied(d)} }

// copied: a datum in memory of its own; also an empty list may have spare room
// that is not ours.
func copied(d api.Datum) api.Datum {
	var l []api.Datum
	for _, x := range d.Items {
		l = append(l, copied(x))
	}
	d.Items = l
	return d
}
