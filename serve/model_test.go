package serve_test

import (
	"maps"
	"slices"
	"strconv"

	"graftery/api"
	"graftery/read"
	"graftery/unit"
)

// A plain reading of P7.4: expressions are walked, not compiled, what lives
// are things of Go, and each update brings up all records that live at once.

// plain: a word, or a thing.
type plain struct {
	word  api.Word
	thing *thing
}

type thing struct {
	kind   int
	record string // its name
	values []plain
	lambda api.Expr
	around *frame
}

// frame: a name that is bound, and what is bound around it.
type frame struct {
	name  string
	value plain
	outer *frame
}

func (f *frame) find(name string) *frame {
	for f.name != name {
		f = f.outer
	}
	return f
}

// names that are bound, in all.
func (f *frame) names() int {
	if f == nil {
		return 0
	}
	return 1 + f.outer.names()
}

// bindAll names in a frame each.
func bindAll(f *frame, names []string, values []plain) *frame {
	for i, s := range names {
		f = &frame{s, values[i], f}
	}
	return f
}

// halt: what a model that can't go on panics with.
type halt api.Errno

func check(ok bool, e api.Errno) {
	if !ok {
		panic(halt(e))
	}
}

func must(e api.Errno) { check(e == api.OK, e) }

// model of what there is between acts.
type model struct {
	names    []string // of globals, in their order
	globals  map[string]plain
	shapes   []api.Shape
	versions map[string]int // by names of records: how many there were
	fuel     int
	calls    int
	made     int // words, as P7.4 counts them, by all acts that were not refused, and by this one
	most     int // the most that were so
}

func newModel() *model {
	return &model{globals: map[string]plain{}, versions: map[string]int{}}
}

// do an act: with any error nothing has changed but what was counted.
func (m *model) do(a api.Act) (answer api.Answer) {
	before := m.copied()
	defer func() {
		m.most = max(m.most, m.made)
		if r := recover(); r != nil {
			before.most = m.most
			*m = *before
			answer = api.Answer{Code: api.Errno(r.(halt))}
		}
	}()
	switch a.Kind {
	case api.Update:
		m.update(a.Source)
	case api.Request:
		return api.Answer{Text: m.request(a)}
	}
	return api.Answer{}
}

// copied: the same things, in memory of their own.
func (m *model) copied() *model {
	c := *m
	c.names, c.shapes, c.versions = slices.Clone(m.names), slices.Clone(m.shapes), maps.Clone(m.versions)
	c.globals = map[string]plain{}
	k := copier{map[*thing]*thing{}, map[*frame]*frame{}}
	for name, v := range m.globals {
		c.globals[name] = k.value(v)
	}
	return &c
}

type copier struct {
	things map[*thing]*thing
	frames map[*frame]*frame
}

func (k copier) value(v plain) plain {
	if v.thing == nil {
		return v
	}
	t, ok := k.things[v.thing]
	if !ok {
		t = &thing{kind: v.thing.kind, record: v.thing.record, lambda: v.thing.lambda}
		k.things[v.thing] = t
		for _, x := range v.thing.values {
			t.values = append(t.values, k.value(x))
		}
		t.around = k.frame(v.thing.around)
	}
	return plain{thing: t}
}

func (k copier) frame(f *frame) *frame {
	if f == nil {
		return nil
	}
	c, ok := k.frames[f]
	if !ok {
		c = &frame{name: f.name}
		k.frames[f] = c
		c.value, c.outer = k.value(f.value), k.frame(f.outer)
	}
	return c
}

// living things: those that globals reach.
func (m *model) living() []*thing {
	k := copier{map[*thing]*thing{}, map[*frame]*frame{}}
	for _, v := range m.globals {
		k.value(v)
	}
	return slices.Collect(maps.Keys(k.things))
}

func (m *model) update(source string) {
	l, _, e := read.Read(source)
	must(e)
	u, _, e := unit.Form(l, api.Env{Globals: m.names, Shapes: m.shapes})
	must(e)
	for _, s := range u.Shapes {
		m.addShape(s, u.Upgrades)
	}
	m.bringUpAll(u)
	m.shapes = unit.Shapes(api.Env{Shapes: m.shapes}, u)
	var values []api.Def
	for _, d := range u.Defs {
		_, ok := m.globals[d.Name]
		if !ok {
			m.names = append(m.names, d.Name)
			m.globals[d.Name] = plainNil()
		}
		if d.Expr.Kind == api.Lambda {
			m.made += 2
			m.globals[d.Name] = plain{thing: &thing{kind: api.Closure, lambda: d.Expr}}
		} else if !ok {
			values = append(values, d)
		}
	}
	for _, d := range values {
		m.globals[d.Name] = m.run(d.Expr, api.MaxFuel)
	}
}

func (m *model) addShape(s api.Shape, l []api.Upgrade) {
	isOfIt := func(p api.Upgrade) bool { return p.Name == s.Name }
	old := m.shape(s.Name)
	if m.versions[s.Name] == 0 || slices.ContainsFunc(l, isOfIt) {
		check(m.versions[s.Name] < api.MaxVers, api.ErrSize)
		m.versions[s.Name]++
		return
	}
	check(slices.Equal(old.Fields, s.Fields), api.ErrNone)
}

// shape of a record, as it is now.
func (m *model) shape(name string) api.Shape {
	i := slices.IndexFunc(m.shapes, func(s api.Shape) bool { return s.Name == name })
	if i < 0 {
		return api.Shape{}
	}
	return m.shapes[i]
}

// bringUpAll records that live at once, or none.
func (m *model) bringUpAll(u api.Unit) {
	now := map[*thing][]plain{}
	var l []api.Errno
	for _, t := range m.living() {
		for _, p := range u.Upgrades {
			if t.kind == api.Record && t.record == p.Name {
				values, e := m.broughtUp(t, p)
				l = append(l, e)
				now[t] = values
			}
		}
	}
	l = slices.DeleteFunc(l, func(e api.Errno) bool { return e == api.OK })
	check(len(l) == 0, slices.Min(append(l, 1000)))
	for t, values := range now {
		t.values = values
	}
}

func (m *model) broughtUp(t *thing, p api.Upgrade) (values []plain, e api.Errno) {
	defer func() {
		if r := recover(); r != nil {
			values, e = nil, api.Errno(r.(halt))
		}
	}()
	f := &frame{value: plain{thing: t}}
	for _, x := range p.Exprs {
		m.fuel = api.MaxFuel
		values = append(values, m.body(x, f))
	}
	m.made += 3 + len(values)
	return values, api.OK
}

func (m *model) request(a api.Act) string {
	_, ok := m.globals[a.Name]
	check(ok, api.ErrNone)
	check(len(a.Data) <= api.MaxArgs, api.ErrCount)
	x := api.Expr{Kind: api.Call, Args: []api.Expr{{Kind: api.Global, S: a.Name}}}
	for _, d := range a.Data {
		must(read.Check(d))
		x.Args = append(x.Args, api.Expr{Kind: api.Const, Datum: d})
	}
	check(0 <= a.Fuel && a.Fuel <= api.MaxFuel, api.ErrRange)
	return m.run(x, a.Fuel).show(0)
}

// show a value that is in so many others.
func (v plain) show(others int) string {
	if v.thing == nil {
		return map[int]string{api.Int: strconv.Itoa(v.word.N), api.Bool: []string{"#f", "#t"}[v.word.N&1], api.Nil: "()", api.Sym: v.word.S}[v.word.Kind]
	}
	if others == api.MaxShow {
		return ".."
	}
	switch v.thing.kind {
	case api.Closure:
		return "#fn"
	case api.Record:
		s := "#[" + v.thing.record
		for _, x := range v.thing.values {
			s += " " + x.show(others+1)
		}
		return s + "]"
	}
	s := "(" + v.thing.values[0].show(others+1)
	n, rest := 1, v.thing.values[1]
	for rest.is(api.Pair) && n < api.MaxList {
		s += " " + rest.thing.values[0].show(others+1)
		n, rest = n+1, rest.thing.values[1]
	}
	switch {
	case rest.is(api.Pair):
		s += " .."
	case rest != plainNil():
		s += " . " + rest.show(others+1)
	}
	return s + ")"
}

func plainNil() plain { return plain{word: null()} }

func plainInt(n int) plain { return plain{word: number(n)} }

func plainBool(b bool) plain {
	if b {
		return plain{word: api.Word{Kind: api.Bool, N: 1}}
	}
	return plain{word: api.Word{Kind: api.Bool}}
}

func (v plain) isFalse() bool { return v == plainBool(false) }

func (v plain) is(kind int) bool { return v.thing != nil && v.thing.kind == kind }

func plainPair(a, b plain) plain {
	return plain{thing: &thing{kind: api.Pair, values: []plain{a, b}}}
}

// datum: its value, all pairs of which are new.
func (m *model) datum(d api.Datum) plain {
	switch d.Kind {
	case api.DInt:
		return plainInt(d.N)
	case api.DBool:
		return plainBool(d.N == 1)
	case api.DSym:
		return plain{word: api.Word{Kind: api.Sym, S: d.S}}
	}
	v := plainNil()
	for _, x := range slices.Backward(d.Items) {
		m.made += 3
		v = plainPair(m.datum(x), v)
	}
	return v
}

// run an expression as the first call.
func (m *model) run(x api.Expr, fuel int) plain {
	m.fuel, m.calls = fuel, 1
	return m.body(x, nil)
}

// later: a call that is to be done in the place of the one that it is in.
type later struct {
	callee *thing
	args   []plain
}

// body of a function, and of all that are called in its place.
func (m *model) body(x api.Expr, f *frame) plain {
	for {
		v, next := m.eval(x, f, true)
		if next == nil {
			return v
		}
		x, f = next.callee.lambda.Args[0], bindAll(next.callee.around, next.callee.lambda.Names, next.args)
	}
}

func (m *model) all(l []api.Expr, f *frame) []plain {
	var vs []plain
	for _, x := range l {
		v, _ := m.eval(x, f, false)
		vs = append(vs, v)
	}
	return vs
}

// eval an expression: its value, or what is to be called for it.
func (m *model) eval(x api.Expr, f *frame, last bool) (plain, *later) {
	check(m.fuel > 0, api.ErrFuel)
	m.fuel--
	switch x.Kind {
	case api.Const:
		return m.datum(x.Datum), nil
	case api.Local:
		return f.find(x.S).value, nil
	case api.Global:
		return m.globals[x.S], nil
	case api.Was:
		return f.value.thing.values[x.N], nil
	case api.If:
		if m.all(x.Args[:1], f)[0].isFalse() {
			return m.eval(x.Args[2], f, last)
		}
		return m.eval(x.Args[1], f, last)
	case api.Begin:
		m.all(x.Args[:len(x.Args)-1], f)
		return m.eval(x.Args[len(x.Args)-1], f, last)
	case api.Let:
		n := len(x.Names)
		values := m.all(x.Args[:n], f)
		m.made += 2 * n
		return m.eval(x.Args[n], bindAll(f, x.Names, values), last)
	case api.Lambda:
		m.made += 2 + f.names()
		return plain{thing: &thing{kind: api.Closure, lambda: x, around: f}}, nil
	case api.Call:
		return m.call(m.all(x.Args, f), last)
	case api.Set:
		v := m.all(x.Args, f)[0]
		if x.N == 1 {
			f.find(x.S).value = v
		} else {
			m.globals[x.S] = v
		}
		return plainNil(), nil
	case api.Prim:
		return m.primitive(x.S, m.all(x.Args, f)), nil
	}
	return m.record(x, m.all(x.Args, f)), nil
}

func (m *model) call(l []plain, last bool) (plain, *later) {
	check(l[0].is(api.Closure), api.ErrKind)
	next := &later{l[0].thing, l[1:]}
	check(len(next.callee.lambda.Names) == len(next.args), api.ErrCount)
	check(last || m.calls < api.MaxCalls, api.ErrDeep)
	m.made += 2 * len(next.args)
	if last {
		return plain{}, next
	}
	m.calls++
	v := m.body(next.callee.lambda.Args[0], bindAll(next.callee.around, next.callee.lambda.Names, next.args))
	m.calls--
	return v, nil
}

func (m *model) primitive(s string, l []plain) plain {
	switch s {
	case "cons":
		m.made += 3
		return plainPair(l[0], l[1])
	case "car", "cdr":
		check(l[0].is(api.Pair), api.ErrKind)
		return l[0].thing.values[map[string]int{"cdr": 1}[s]]
	case "null?":
		return plainBool(l[0] == plainNil())
	case "pair?":
		return plainBool(l[0].is(api.Pair))
	case "not":
		return plainBool(l[0].isFalse())
	case "eq?":
		return plainBool(l[0] == l[1])
	case "error":
		panic(halt(api.ErrRaise))
	}
	check(l[0].word.Kind == api.Int && l[1].word.Kind == api.Int, api.ErrKind)
	return plainNumber(s, l[0].word.N, l[1].word.N)
}

// plainNumber of numbers that are small enough for the drawn scripts.
func plainNumber(s string, a, b int) plain {
	switch s {
	case "=":
		return plainBool(a == b)
	case "<":
		return plainBool(a < b)
	case "-":
		b = -b
	case "*":
		check(a == 0 || max(b, -b) <= api.MaxInt/max(a, -a), api.ErrRange)
		a, b = a*b, 0
	case "quotient":
		check(b != 0, api.ErrRange)
		a, b = a/b, 0
	}
	check(max(a+b, -a-b) <= api.MaxInt, api.ErrRange)
	return plainInt(a + b)
}

// record: what is done with one.
func (m *model) record(x api.Expr, l []plain) plain {
	fields := m.shape(x.S).Fields
	isOne := len(l) > 0 && l[0].is(api.Record) && l[0].thing.record == x.S
	switch x.Kind {
	case api.Make:
		check(len(l) == len(fields), api.ErrCount)
		m.made += 3 + len(l)
		return plain{thing: &thing{kind: api.Record, record: x.S, values: l}}
	case api.Is:
		return plainBool(isOne)
	}
	check(isOne, api.ErrKind)
	i := slices.Index(fields, x.Names[0])
	check(i >= 0, api.ErrField)
	if x.Kind == api.Put {
		l[0].thing.values[i] = l[1]
	}
	return l[0].thing.values[i]
}
