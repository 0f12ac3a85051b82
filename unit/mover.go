package unit

import (
	"slices"

	"graftery/api"
)

// mover forms the expressions of an upgrade, which may look at nothing but the
// old fields, and change nothing.
type mover struct {
	words words
	olds  []string
}

func (m mover) expr(d api.Datum) (api.Expr, api.Errno) {
	switch {
	case d.Kind == api.DList:
		return m.list(d.Items)
	case d.Kind != api.DSym:
		return constant(d), api.OK
	case m.words.isFree(d.S):
		return api.Expr{}, api.ErrPure
	}
	return api.Expr{}, api.ErrForm
}

// list: one that begins with something else than a name is as one that begins
// with an empty text, which is no word.
func (m mover) list(l []api.Datum) (api.Expr, api.Errno) {
	if len(l) == 0 {
		return api.Expr{}, api.ErrForm
	}
	word, rest := l[0].S, l[1:]
	if n := m.words.primitives[word]; n != 0 {
		return withCount(api.Expr{Kind: api.Prim, S: word}, rest, n, n, m.expr)
	}
	switch m.words.keywords[word] {
	case keyQuote:
		return quote(rest)
	case keyIf:
		return ifOf(rest, m.expr)
	case keyWas:
		return m.was(rest)
	}
	return api.Expr{}, api.ErrPure
}

func (m mover) was(l []api.Datum) (api.Expr, api.Errno) {
	if len(l) != 1 || isNoName(l[0]) {
		return api.Expr{}, api.ErrForm
	}
	i := slices.Index(m.olds, l[0].S)
	if i < 0 {
		return api.Expr{}, api.ErrNone
	}
	return api.Expr{Kind: api.Was, N: i}, api.OK
}
