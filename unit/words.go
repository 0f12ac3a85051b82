package unit

import (
	"slices"

	"graftery/api"
	"graftery/read"
)

// Keywords; 0 is none.
const (
	keyQuote = iota + 1
	keyIf
	keyLet
	keyLambda
	keyBegin
	keySet
	keyRecord
	keyDefine
	keyUpgrade
	keyWas
)

// words that have a meaning of their own, so that nothing else may bind them.
type words struct {
	keywords   map[string]int // which one
	primitives map[string]int // how many arguments it has
}

func newWords() words {
	return words{
		keywords: map[string]int{
			"quote": keyQuote, "if": keyIf, "let": keyLet, "lambda": keyLambda, "begin": keyBegin, "set!": keySet,
			"record": keyRecord, "define": keyDefine, "upgrade": keyUpgrade, "was": keyWas,
		},
		primitives: map[string]int{
			"+": 2, "-": 2, "*": 2, "quotient": 2, "remainder": 2, "=": 2, "<": 2, "cons": 2, "eq?": 2,
			"car": 1, "cdr": 1, "null?": 1, "pair?": 1, "not": 1, "error": 1,
		},
	}
}

// isFree: is a text a name that may be bound?
func (w words) isFree(s string) bool {
	return isName(s) && w.keywords[s] == 0 && w.primitives[s] == 0
}

// isFreeName: is a datum a name that may be bound?
func (w words) isFreeName(d api.Datum) bool { return d.Kind == api.DSym && w.isFree(d.S) }

func isName(s string) bool { return read.Check(api.Datum{Kind: api.DSym, S: s}) == api.OK }

func (w words) checkShape(s api.Shape) api.Errno {
	if !w.isFree(s.Name) {
		return api.ErrForm
	}
	if len(s.Fields) > api.MaxFields {
		return api.ErrSize
	}
	for i, f := range s.Fields {
		if !isName(f) {
			return api.ErrForm
		}
		if slices.Contains(s.Fields[:i], f) {
			return api.ErrTwice
		}
	}
	return api.OK
}

func (w words) checkEnv(v api.Env) api.Errno {
	if len(v.Globals) > api.MaxGlobs || len(v.Shapes) > api.MaxRecs {
		return api.ErrSize
	}
	for i, s := range v.Globals {
		if !w.isFree(s) {
			return api.ErrForm
		}
		if slices.Contains(v.Globals[:i], s) {
			return api.ErrTwice
		}
	}
	for i, s := range v.Shapes {
		if e := w.checkShape(s); e != api.OK {
			return e
		}
		if _, ok := finder(v.Shapes[:i])(s.Name); ok {
			return api.ErrTwice
		}
	}
	return api.OK
}
