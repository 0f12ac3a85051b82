package graft_test

import (
	"reflect"
	"slices"
	"strconv"
	"strings"
	"testing"

	"graftery/api"
	"graftery/code"
	"graftery/graft"
	"graftery/read"
	"graftery/unit"
	"graftery/vm"
)

// Words.

func number(n int) api.Word { return api.Word{Kind: api.Int, N: n} }
func null() api.Word        { return api.Word{Kind: api.Nil} }
func ref(n int) api.Word    { return api.Word{Kind: api.Ref, N: n} }

// Expressions.

func constant(n int) api.Expr {
	return api.Expr{Kind: api.Const, Datum: api.Datum{Kind: api.DInt, N: n}}
}

func global(s string) api.Expr              { return api.Expr{Kind: api.Global, S: s} }
func local(s string) api.Expr               { return api.Expr{Kind: api.Local, S: s} }
func was(n int) api.Expr                    { return api.Expr{Kind: api.Was, N: n} }
func lambda(x api.Expr) api.Expr            { return api.Expr{Kind: api.Lambda, Args: []api.Expr{x}} }
func begin(l ...api.Expr) api.Expr          { return api.Expr{Kind: api.Begin, Args: l} }
func prim(s string, l ...api.Expr) api.Expr { return api.Expr{Kind: api.Prim, S: s, Args: l} }

func set(n int, s string, x api.Expr) api.Expr {
	return api.Expr{Kind: api.Set, N: n, S: s, Args: []api.Expr{x}}
}

func let(name string, l ...api.Expr) api.Expr {
	return api.Expr{Kind: api.Let, Names: []string{name}, Args: l}
}

// of a record: an expression of a kind, with a field, if it has one.
func of(kind int, record string, field []string, l ...api.Expr) api.Expr {
	return api.Expr{Kind: kind, S: record, Names: field, Args: l}
}

// tooLong: an expression whose function would have too many instructions.
func tooLong() api.Expr {
	l := slices.Repeat([]api.Datum{{Kind: api.DInt}}, api.MaxCode)
	return api.Expr{Kind: api.Const, Datum: api.Datum{Kind: api.DList, Items: l}}
}

// bound: an expression in which so many names are bound around another.
func bound(n int, x api.Expr) api.Expr {
	for i := range n {
		x = let("n"+strconv.Itoa(i), constant(i), x)
	}
	return x
}

// Units.

func shape(name string, fields ...string) api.Shape { return api.Shape{Name: name, Fields: fields} }
func def(name string, x api.Expr) api.Def           { return api.Def{Name: name, Expr: x} }

func upgrade(name string, l ...api.Expr) api.Upgrade { return api.Upgrade{Name: name, Exprs: l} }

// unitOf shapes, definitions and upgrades, in any order.
func unitOf(l ...any) api.Unit {
	var u api.Unit
	for _, x := range l {
		switch x := x.(type) {
		case api.Shape:
			u.Shapes = append(u.Shapes, x)
		case api.Def:
			u.Defs = append(u.Defs, x)
		case api.Upgrade:
			u.Upgrades = append(u.Upgrades, x)
		}
	}
	return u
}

// names: so many that are unlike, with a beginning.
func names(begin string, n int) []string {
	var l []string
	for i := range n {
		l = append(l, begin+strconv.Itoa(i))
	}
	return l
}

// defs: a definition of each of these names.
func defs(l []string, x api.Expr) api.Unit {
	var u api.Unit
	for _, s := range l {
		u.Defs = append(u.Defs, def(s, x))
	}
	return u
}

func long(n int) string { return strings.Repeat("x", n) }

// Worlds.

func empty(limit int) api.World { return api.World{Heap: api.Heap{Limit: limit}} }

// form the unit of a source, for a world.
func form(t *testing.T, w api.World, source string) api.Unit {
	t.Helper()
	l, _, e := read.Read(source)
	if e != api.OK {
		t.Fatalf("%s: not read: %v", source, e)
	}
	v, e := graft.Env(w)
	if e != api.OK {
		t.Fatalf("%s: no environment: %v", source, e)
	}
	u, i, e := unit.Form(l, v)
	if e != api.OK {
		t.Fatalf("%s: not formed: %d, %v", source, i, e)
	}
	return u
}

// grow a world by sources, one by one.
func grow(t *testing.T, w api.World, sources ...string) api.World {
	t.Helper()
	for _, s := range sources {
		w = grafted(t, w, form(t, w, s))
	}
	return w
}

// grafted: a unit comes into a world, which may be then.
func grafted(t *testing.T, w api.World, u api.Unit) api.World {
	t.Helper()
	n, e := graft.Graft(w, u)
	if e != api.OK {
		t.Fatalf("%v: %v", u, e)
	}
	if vm.Check(n) != api.OK {
		t.Fatalf("%v: a world that may not be: %v", u, n)
	}
	return n
}

// refuses: a unit does not come into a world.
func refuses(t *testing.T, w api.World, u api.Unit, want api.Errno) {
	t.Helper()
	n, e := graft.Graft(w, u)
	if e != want {
		t.Errorf("%.300v: %v, want %v", u, e, want)
	}
	if e != api.OK && !isEmpty(n) {
		t.Errorf("%.300v: %v, and yet %v", u, e, n)
	}
}

// mayRefuse: a unit comes into a world, or is refused with this error.
func mayRefuse(t *testing.T, w api.World, u api.Unit, want api.Errno) {
	t.Helper()
	if n, e := graft.Graft(w, u); e != api.OK {
		refuses(t, w, u, want)
	} else if vm.Check(n) != api.OK {
		t.Errorf("%.300v: a world that may not be", u)
	}
}

// refusesSource: what is in a source does not come into a world.
func refusesSource(t *testing.T, w api.World, source string, want api.Errno) {
	t.Helper()
	refuses(t, w, form(t, w, source), want)
}

func isEmpty(w api.World) bool {
	return len(w.Funcs) == 0 && len(w.Globs) == 0 && len(w.Recs) == 0 && len(w.Heap.Words) == 0 && w.Heap.Limit == 0
}

// tells: what an expression tells in a world.
func tells(t *testing.T, w api.World, s, want string) {
	t.Helper()
	x := form(t, w, "(define it "+s+")").Defs[0].Expr
	l, e := code.Compile(x, len(w.Funcs))
	if e != api.OK {
		t.Fatalf("%s: not compiled: %v", s, e)
	}
	w = vm.Copy(w)
	w.Funcs = append(w.Funcs, l...)
	w, v, e := vm.Run(w, l[0], api.MaxFuel)
	if e != api.OK {
		t.Errorf("%s: %v, want %s", s, e, want)
		return
	}
	w, v, e = vm.Settle(w, v)
	if e != api.OK {
		t.Errorf("%s: not settled: %v", s, e)
	} else if got := show(w, v); got != want {
		t.Errorf("%s: %s, want %s", s, got, want)
	}
}

// show a value that has no rings.
func show(w api.World, x api.Word) string {
	switch x.Kind {
	case api.Int:
		return strconv.Itoa(x.N)
	case api.Bool:
		return []string{"#f", "#t"}[x.N]
	case api.Nil:
		return "()"
	case api.Sym:
		return x.S
	}
	l := w.Heap.Words
	switch head := l[x.N]; head.Kind {
	case api.Moved:
		return show(w, ref(head.N))
	case api.Pair:
		return "(" + show(w, l[x.N+1]) + " . " + show(w, l[x.N+2]) + ")"
	case api.Record:
		s := "#[" + w.Recs[head.N].Name + strconv.Itoa(l[x.N+1].N)
		for _, v := range l[x.N+3 : x.N+3+l[x.N+2].N] {
			s += " " + show(w, v)
		}
		return s + "]"
	}
	return "#fn"
}

// value of a global.
func value(w api.World, name string) api.Word {
	i := slices.IndexFunc(w.Globs, func(g api.Glob) bool { return g.Name == name })
	if i < 0 {
		return api.Word{}
	}
	return w.Globs[i].Value
}

// alike: are two answers the same? An empty list may be nil or not.
func alike(a, b any) bool { return reflect.DeepEqual(plain(a), plain(b)) }

func plain(x any) any {
	v := reflect.ValueOf(x)
	r := reflect.New(v.Type()).Elem()
	r.Set(v)
	return plainValue(r).Interface()
}

func plainValue(v reflect.Value) reflect.Value {
	r := reflect.New(v.Type()).Elem()
	switch v.Kind() {
	case reflect.Slice:
		for i := range v.Len() {
			r = reflect.Append(r, plainValue(v.Index(i)))
		}
	case reflect.Struct:
		for i := range v.NumField() {
			r.Field(i).Set(plainValue(v.Field(i)))
		}
	default:
		r.Set(v)
	}
	return r
}

// newDice: numbers that look drawn, the same each time.
func newDice(seed int) func(int) int {
	x := uint64(seed)*2862933555777941757 + 3037000493
	return func(most int) int {
		x = x*6364136223846793005 + 1442695040888963407
		return int(x>>33) % most
	}
}
