package code_test

import (
	"math/big"
	"strconv"

	"graftery/api"
)

// A plain reading of P5.3 to P5.5: expressions are walked, not compiled, and
// what lives are things of Go.

// value: a word, or a thing.
type value struct {
	word  api.Word
	thing *thing
}

type thing struct {
	kind   int
	record int // its place
	values []value
	lambda api.Expr
	around *frame
}

// frame: a name that is bound, and what is bound around it.
type frame struct {
	name  string
	value value
	outer *frame
}

func (f *frame) find(name string) *frame {
	for f.name != name {
		f = f.outer
	}
	return f
}

// names that are bound, in all.
func (f *frame) names() int {
	if f == nil {
		return 0
	}
	return 1 + f.outer.names()
}

// bindAll names in a frame each.
func bindAll(f *frame, names []string, values []value) *frame {
	for i, s := range names {
		f = &frame{s, values[i], f}
	}
	return f
}

// halt: what a model that can't go on panics with.
type halt api.Errno

func check(ok bool, e api.Errno) {
	if !ok {
		panic(halt(e))
	}
}

type model struct {
	globals map[string]value
	fuel    int
	calls   int
	made    int // words, as P7.4 counts them
}

func plainNil() value { return value{word: null()} }

func plainInt(n int) value { return value{word: number(n)} }

func plainBool(b bool) value {
	if b {
		return value{word: api.Word{Kind: api.Bool, N: 1}}
	}
	return value{word: api.Word{Kind: api.Bool}}
}

func (v value) isFalse() bool { return v == plainBool(false) }

func (v value) is(kind int) bool { return v.thing != nil && v.thing.kind == kind }

func plainPair(a, b value) value {
	return value{thing: &thing{kind: api.Pair, values: []value{a, b}}}
}

func plainDatum(d api.Datum) value {
	switch d.Kind {
	case api.DInt:
		return plainInt(d.N)
	case api.DBool:
		return plainBool(d.N == 1)
	case api.DSym:
		return value{word: api.Word{Kind: api.Sym, S: d.S}}
	}
	v := plainNil()
	for i := len(d.Items) - 1; i >= 0; i-- {
		v = plainPair(plainDatum(d.Items[i]), v)
	}
	return v
}

// run an expression as the first call; nothing of it stays, if it fails.
func (m *model) run(x api.Expr) (v value, e api.Errno) {
	defer func() {
		if r := recover(); r != nil {
			v, e = value{}, api.Errno(r.(halt))
		}
	}()
	m.calls = 1
	return m.body(x, nil), api.OK
}

// later: a call that is to be done in the place of the one that it is in.
type later struct {
	callee *thing
	args   []value
}

// body of a function, and of all that are called in its place.
func (m *model) body(x api.Expr, f *frame) value {
	for {
		v, next := m.eval(x, f, true)
		if next == nil {
			return v
		}
		x, f = next.callee.lambda.Args[0], bindAll(next.callee.around, next.callee.lambda.Names, next.args)
	}
}

func (m *model) all(l []api.Expr, f *frame) []value {
	var vs []value
	for _, x := range l {
		v, _ := m.eval(x, f, false)
		vs = append(vs, v)
	}
	return vs
}

// eval an expression: its value, or what is to be called for it.
func (m *model) eval(x api.Expr, f *frame, last bool) (value, *later) {
	check(m.fuel > 0, api.ErrFuel)
	m.fuel--
	switch x.Kind {
	case api.Const:
		m.made += 3 * (data(x.Datum) - 1)
		return plainDatum(x.Datum), nil
	case api.Local:
		return f.find(x.S).value, nil
	case api.Global:
		return m.globals[x.S], nil
	case api.If:
		if m.all(x.Args[:1], f)[0].isFalse() {
			return m.eval(x.Args[2], f, last)
		}
		return m.eval(x.Args[1], f, last)
	case api.Begin:
		m.all(x.Args[:len(x.Args)-1], f)
		return m.eval(x.Args[len(x.Args)-1], f, last)
	case api.Let:
		n := len(x.Names)
		m.made += 2 * n
		return m.eval(x.Args[n], bindAll(f, x.Names, m.all(x.Args[:n], f)), last)
	case api.Lambda:
		m.made += 2 + f.names()
		return value{thing: &thing{kind: api.Closure, lambda: x, around: f}}, nil
	case api.Call:
		return m.call(m.all(x.Args, f), last)
	case api.Set:
		v := m.all(x.Args, f)[0]
		if x.N == 1 {
			f.find(x.S).value = v
		} else {
			m.globals[x.S] = v
		}
		return plainNil(), nil
	case api.Prim:
		if x.S == "cons" {
			m.made += 3
		}
		return plainPrim(x.S, m.all(x.Args, f)), nil
	}
	if x.Kind == api.Make {
		m.made += 3 + len(x.Args)
	}
	return plainRecord(x, m.all(x.Args, f)), nil
}

func (m *model) call(l []value, last bool) (value, *later) {
	check(l[0].is(api.Closure), api.ErrKind)
	next := &later{l[0].thing, l[1:]}
	check(len(next.callee.lambda.Names) == len(next.args), api.ErrCount)
	m.made += 2 * len(next.args)
	if last {
		return value{}, next
	}
	check(m.calls < api.MaxCalls, api.ErrDeep)
	m.calls++
	v := m.body(next.callee.lambda.Args[0], bindAll(next.callee.around, next.callee.lambda.Names, next.args))
	m.calls--
	return v, nil
}

func plainPrim(s string, l []value) value {
	switch s {
	case "cons":
		return plainPair(l[0], l[1])
	case "car", "cdr":
		check(l[0].is(api.Pair), api.ErrKind)
		return l[0].thing.values[map[string]int{"cdr": 1}[s]]
	case "null?":
		return plainBool(l[0] == plainNil())
	case "pair?":
		return plainBool(l[0].is(api.Pair))
	case "not":
		return plainBool(l[0].isFalse())
	case "eq?":
		return plainBool(l[0] == l[1])
	case "error":
		panic(halt(api.ErrRaise))
	}
	check(l[0].word.Kind == api.Int && l[1].word.Kind == api.Int, api.ErrKind)
	return plainNumber(s, big.NewInt(int64(l[0].word.N)), big.NewInt(int64(l[1].word.N)))
}

func plainNumber(s string, a, b *big.Int) value {
	n := new(big.Int)
	switch s {
	case "=":
		return plainBool(a.Cmp(b) == 0)
	case "<":
		return plainBool(a.Cmp(b) < 0)
	case "+":
		n.Add(a, b)
	case "-":
		n.Sub(a, b)
	case "*":
		n.Mul(a, b)
	case "quotient", "remainder":
		check(b.Sign() != 0, api.ErrRange)
		var r big.Int
		n.QuoRem(a, b, &r)
		if s == "remainder" {
			n = &r
		}
	}
	check(n.CmpAbs(big.NewInt(api.MaxInt)) <= 0, api.ErrRange)
	return plainInt(int(n.Int64()))
}

// plainRecord: what is done with the records of env.
func plainRecord(x api.Expr, l []value) value {
	place := map[string]int{"q": 1}[x.S]
	isOne := len(l) > 0 && l[0].is(api.Record) && l[0].thing.record == place
	switch x.Kind {
	case api.Make:
		check(len(l) == len(env().Shapes[place].Fields), api.ErrCount)
		return value{thing: &thing{kind: api.Record, record: place, values: l}}
	case api.Is:
		return plainBool(isOne)
	}
	check(isOne, api.ErrKind)
	for i, s := range env().Shapes[place].Fields {
		if s == x.Names[0] {
			if x.Kind == api.Put {
				l[0].thing.values[i] = l[1]
			}
			return l[0].thing.values[i]
		}
	}
	panic(halt(api.ErrField))
}

// show a value of the model as one of a heap is shown.
func (v value) show(levels int) string {
	name := "pair"
	switch {
	case v.thing == nil:
		return show(api.Heap{}, v.word, 0)
	case v.thing.kind == api.Closure:
		return "#fn"
	case levels == 0:
		return ".."
	case v.thing.kind == api.Record:
		name = "record" + strconv.Itoa(v.thing.record)
	}
	s := "[" + name
	for _, x := range v.thing.values {
		s += " " + x.show(levels-1)
	}
	return s + "]"
}

func (m *model) showAll(v value, levels int) string {
	s := v.show(levels)
	for _, name := range env().Globals {
		s += "; " + name + ": " + m.globals[name].show(levels)
	}
	return s
}
