package code_test

import (
	"slices"
	"strconv"
	"strings"
	"testing"

	"graftery/api"
	"graftery/code"
	"graftery/read"
	"graftery/unit"
	"graftery/vm"
)

// Data.

func num(n int) api.Datum           { return api.Datum{Kind: api.DInt, N: n} }
func sym(s string) api.Datum        { return api.Datum{Kind: api.DSym, S: s} }
func list(l ...api.Datum) api.Datum { return api.Datum{Kind: api.DList, Items: l} }

// Expressions.

func constant(d api.Datum) api.Expr { return api.Expr{Kind: api.Const, Datum: d} }
func local(s string) api.Expr       { return api.Expr{Kind: api.Local, S: s} }
func global(s string) api.Expr      { return api.Expr{Kind: api.Global, S: s} }
func was(n int) api.Expr            { return api.Expr{Kind: api.Was, N: n} }

func branch(a, b, c api.Expr) api.Expr { return expr(api.If, a, b, c) }
func begin(l ...api.Expr) api.Expr     { return expr(api.Begin, l...) }
func call(l ...api.Expr) api.Expr      { return expr(api.Call, l...) }

// expr: of a kind that has nothing but arguments.
func expr(kind int, l ...api.Expr) api.Expr { return api.Expr{Kind: kind, Args: l} }

// let: the values, then the body.
func let(names []string, l ...api.Expr) api.Expr {
	return api.Expr{Kind: api.Let, Names: names, Args: l}
}

func lambda(names []string, l ...api.Expr) api.Expr {
	return api.Expr{Kind: api.Lambda, Names: names, Args: l}
}

// set: n is 1 for a local, 0 for a global.
func set(n int, s string, l ...api.Expr) api.Expr {
	return api.Expr{Kind: api.Set, N: n, S: s, Args: l}
}

func prim(s string, l ...api.Expr) api.Expr  { return api.Expr{Kind: api.Prim, S: s, Args: l} }
func makes(s string, l ...api.Expr) api.Expr { return api.Expr{Kind: api.Make, S: s, Args: l} }
func is(s string, l ...api.Expr) api.Expr    { return api.Expr{Kind: api.Is, S: s, Args: l} }

func get(s, field string, l ...api.Expr) api.Expr {
	return api.Expr{Kind: api.Get, S: s, Names: []string{field}, Args: l}
}

func put(s, field string, l ...api.Expr) api.Expr {
	return api.Expr{Kind: api.Put, S: s, Names: []string{field}, Args: l}
}

// one: the least expression.
func one() api.Expr { return constant(num(1)) }

// ones: so many.
func ones(n int) []api.Expr { return slices.Repeat([]api.Expr{one()}, n) }

// names: so many that are unlike, with a beginning.
func names(begin string, n int) []string {
	var l []string
	for i := range n {
		l = append(l, begin+strconv.Itoa(i))
	}
	return l
}

func long(n int) string { return strings.Repeat("x", n) }

// env: what texts of expressions know.
func env() api.Env {
	return api.Env{Globals: []string{"f", "x", "y"}, Shapes: []api.Shape{{Name: "p", Fields: []string{"a", "b"}}, {Name: "q"}}}
}

// parse the text of an expression.
func parse(t *testing.T, s string) api.Expr {
	t.Helper()
	l, _, e := read.Read("(define it " + s + ")")
	if e != api.OK {
		t.Fatalf("%s: not read: %v", s, e)
	}
	u, _, e := unit.Form(l, env())
	if e != api.OK {
		t.Fatalf("%s: not formed: %v", s, e)
	}
	return u.Defs[0].Expr
}

// Words and worlds.

func null() api.Word { return api.Word{Kind: api.Nil} }

func number(n int) api.Word { return api.Word{Kind: api.Int, N: n} }

// world that has what texts know: f is no function yet, x is 2, y a Nil.
func world() api.World {
	return api.World{
		Globs: []api.Glob{{Name: "f", Value: number(1)}, {Name: "x", Value: number(2)}, {Name: "y", Value: null()}},
		Recs: []api.Rec{
			{Name: "p", Vers: []api.Shape{{Name: "p", Fields: []string{"a", "b"}}}},
			{Name: "q", Vers: []api.Shape{{Name: "q"}}},
		},
		Heap: api.Heap{Limit: api.MaxHeap},
	}
}

// constantly: a function that has nothing to do with what is compiled.
func constantly(n int) api.Func {
	return api.Func{Code: []api.Instr{{Op: api.OTick}, {Op: api.OConst, W: number(n)}, {Op: api.OReturn}}}
}

// load an expression in a world: its functions stand behind all that are there.
func load(t *testing.T, w api.World, x api.Expr) (api.World, api.Func) {
	t.Helper()
	base := len(w.Funcs)
	l, e := code.Compile(x, base)
	if e != api.OK {
		t.Fatalf("%v: not compiled: %v", x, e)
	}
	w = vm.Copy(w)
	w.Funcs = append(w.Funcs, l...)
	if vm.Check(w) != api.OK {
		t.Fatalf("%v: functions that may not be: %v", x, l)
	}
	return w, l[0]
}

// define a global of a world as a Lambda, as an update would.
func define(t *testing.T, w api.World, name string, x api.Expr) api.World {
	t.Helper()
	base := len(w.Funcs)
	w, _ = load(t, w, x)
	w, v, e := vm.Put(w, []api.Word{{Kind: api.Closure, N: base}, {Kind: api.Int}}, nil)
	if e != api.OK {
		t.Fatalf("%v: no closure: %v", x, e)
	}
	i := slices.IndexFunc(w.Globs, func(g api.Glob) bool { return g.Name == name })
	w.Globs[i].Value = v
	return w
}

// run an expression in a world.
func run(t *testing.T, w api.World, x api.Expr, fuel int) (api.World, api.Word, api.Errno) {
	t.Helper()
	w, f := load(t, w, x)
	return vm.Run(w, f, fuel)
}

// show a value, with so many levels.
func show(h api.Heap, w api.Word, levels int) string {
	switch w.Kind {
	case api.Int:
		return strconv.Itoa(w.N)
	case api.Bool:
		return []string{"#f", "#t"}[w.N]
	case api.Nil:
		return "()"
	case api.Sym:
		return w.S
	}
	for h.Words[w.N].Kind == api.Moved {
		w.N = h.Words[w.N].N
	}
	first, n, name := w.N+1, 2, "pair"
	switch h.Words[w.N].Kind {
	case api.Box:
		n, name = 1, "box"
	case api.Closure:
		return "#fn"
	case api.Record:
		first, n, name = w.N+3, h.Words[w.N+2].N, "record"+strconv.Itoa(h.Words[w.N].N)
	}
	if levels == 0 {
		return ".."
	}
	s := "[" + name
	for _, v := range h.Words[first : first+n] {
		s += " " + show(h, v, levels-1)
	}
	return s + "]"
}

// showAll: a value, and those of all globals.
func showAll(w api.World, x api.Word, levels int) string {
	s := show(w.Heap, x, levels)
	for _, g := range w.Globs {
		s += "; " + g.Name + ": " + show(w.Heap, g.Value, levels)
	}
	return s
}

// tells: what an expression tells, in a world where f has no function.
func tells(t *testing.T, s, want string) {
	t.Helper()
	tellsIn(t, world(), s, want)
}

func tellsIn(t *testing.T, w api.World, s, want string) {
	t.Helper()
	w, x, e := run(t, w, parse(t, s), api.MaxFuel)
	if e != api.OK {
		t.Errorf("%s: %v, want %s", s, e, want)
	} else if got := show(w.Heap, x, 9); got != want {
		t.Errorf("%s: %s, want %s", s, got, want)
	}
}

// fails: an expression ends with an error.
func fails(t *testing.T, s string, want api.Errno) {
	t.Helper()
	failsIn(t, world(), s, want)
}

func failsIn(t *testing.T, w api.World, s string, want api.Errno) {
	t.Helper()
	w, x, e := run(t, w, parse(t, s), api.MaxFuel)
	if e != want {
		t.Errorf("%s: %v, %v, want %v", s, x, e, want)
	}
}

// costs: an expression does with so much fuel, and with less it does not.
func costs(t *testing.T, w api.World, s string, fuel int) {
	t.Helper()
	x := parse(t, s)
	if _, _, e := run(t, w, x, fuel); e != api.OK {
		t.Errorf("%s: with %d of the fuel: %v", s, fuel, e)
	}
	for n := range fuel {
		if _, _, e := run(t, w, x, n); e != api.ErrFuel {
			t.Errorf("%s: with %d of the fuel: %v", s, n, e)
		}
	}
}

// newDice: numbers that look drawn, the same each time.
func newDice(seed int) func(int) int {
	x := uint64(seed)*2862933555777941757 + 3037000493
	return func(most int) int {
		x = x*6364136223846793005 + 1442695040888963407
		return int(x>>33) % most
	}
}
