package code_test

import (
	"slices"
	"testing"

	"graftery/api"
	"graftery/code"
	"graftery/read"
	"graftery/unit"
	"graftery/vm"
)

// drawer of expressions that may be.
type drawer struct {
	next func(int) int
	left int // how many may still begin
}

func (d *drawer) one(l ...string) string { return l[d.next(len(l))] }

// leaf: an expression without others in it.
func (d *drawer) leaf(bound []string) api.Expr {
	switch k := d.next(8); {
	case k < 4 && len(bound) > 0:
		return local(bound[d.next(len(bound))])
	case k == 4:
		return global(d.one("f", "x", "y"))
	case k == 5:
		return constant(list(num(1), sym("a"), list(list(), num(2))))
	case k == 6:
		return constant(api.Datum{Kind: api.DBool, N: d.next(2)})
	}
	return constant(num([]int{0, 1, 2, 3, -7, api.MaxInt}[d.next(6)]))
}

func (d *drawer) some(n int, bound []string) []api.Expr {
	var l []api.Expr
	for range n {
		l = append(l, d.expr(bound))
	}
	return l
}

// binds: some names, which may be bound around already.
func (d *drawer) binds(n int) []string {
	l := []string{"a", "b", "c", "d", "e", "g"}
	first := d.next(len(l))
	return append(slices.Clone(l[first:]), l[:first]...)[:n]
}

func (d *drawer) lambda(n int, bound []string) api.Expr {
	l := d.binds(n)
	inner := slices.Concat(bound, l)
	if len(inner) > api.MaxLocals {
		return lambda(nil, d.expr(bound))
	}
	return lambda(l, d.expr(inner))
}

func (d *drawer) let(n int, bound []string) api.Expr {
	l := d.binds(n)
	inner := slices.Concat(bound, l)
	if len(inner) > api.MaxLocals {
		return d.leaf(bound)
	}
	values := d.some(n, bound)
	return let(l, append(values, d.expr(inner))...)
}

// expr with these names bound around it.
func (d *drawer) expr(bound []string) api.Expr {
	d.left--
	if d.left < 0 {
		return d.leaf(bound)
	}
	switch d.next(20) {
	case 0, 1:
		return expr(api.If, d.some(3, bound)...)
	case 2, 3:
		return begin(d.some(2+d.next(3), bound)...)
	case 4, 5, 6:
		return d.let(d.next(4), bound)
	case 7:
		return d.lambda(d.next(3), bound)
	case 8, 9:
		n := d.next(3)
		return call(append([]api.Expr{d.lambda(n, bound)}, d.some(n, bound)...)...)
	case 10:
		return call(d.some(1+d.next(3), bound)...)
	case 11:
		return call(append([]api.Expr{global("f")}, d.some(1, bound)...)...)
	case 12, 13, 14:
		if len(bound) > 0 {
			return set(1, bound[d.next(len(bound))], d.expr(bound))
		}
		return set(0, d.one("x", "y", "y", "f"), d.expr(bound))
	case 15:
		return set(0, d.one("x", "y"), d.expr(bound))
	case 16:
		return d.record(bound)
	case 17:
		return prim(d.one("car", "cdr", "null?", "pair?", "not", "error"), d.expr(bound))
	}
	return prim(d.one("+", "-", "*", "quotient", "remainder", "=", "<", "cons", "cons", "cons", "eq?", "eq?"), d.some(2, bound)...)
}

func (d *drawer) record(bound []string) api.Expr {
	whole := makes("p", d.some(2, bound)...)
	switch d.next(6) {
	case 0:
		return is(d.one("p", "q"), d.expr(bound))
	case 1:
		return get("p", d.one("a", "b", "b", "c"), whole)
	case 2:
		return put("p", d.one("a", "b"), whole, d.expr(bound))
	case 3:
		return get("p", "b", d.expr(bound))
	case 4:
		return put("p", "b", d.expr(bound), whole)
	}
	return whole
}

// lambdas that are in an expression, itself among them.
func lambdas(x api.Expr) int {
	n := 0
	if x.Kind == api.Lambda {
		n++
	}
	for _, a := range x.Args {
		n += lambdas(a)
	}
	return n
}

// parts of an expression: all expressions and data.
func parts(x api.Expr) int {
	n := 1
	if x.Kind == api.Const {
		n += data(x.Datum)
	}
	for _, a := range x.Args {
		n += parts(a)
	}
	return n
}

func data(d api.Datum) int {
	n := 1
	for _, x := range d.Items {
		n += data(x)
	}
	return n
}

// drawnFunction: of one param, for the global f.
func drawnFunction(next func(int) int) api.Expr {
	d, n := drawer{next, next(12)}, []string{"n"}
	again := call(global("f"), prim("-", local("n"), one()))
	if next(2) == 0 {
		again = prim("cons", local("n"), again) // not a last one
	}
	return lambda(n, branch(prim("=", local("n"), constant(num(0))), d.expr(n), begin(d.leaf(n), again)))
}

// Drawn expressions do on the machine what a plain reading of the chapter does,
// for just as much fuel.
func TestP53DrawnExpressions(t *testing.T) {
	told := map[api.Errno]int{}
	for i := range 8000 {
		next := newDice(i)
		f, d := drawnFunction(next), drawer{next, 3 + next(30)}
		x := d.expr(nil)
		if x.Kind == api.Lambda {
			x = call(append([]api.Expr{x}, ones(len(x.Names))...)...)
		}
		w := define(t, world(), "f", f)
		fuel := next(3000)
		m := newModel(f, fuel)
		v, want := m.run(x)
		told[want]++
		n, y, e := run(t, w, x, fuel)
		if e != want || e == api.OK && showAll(n, y, 7) != m.showAll(v, 7) {
			t.Fatalf("drawn %d: %v, want %v: %v", i, e, want, x)
		}
		if e != api.OK {
			continue
		}
		if len(n.Heap.Words) > len(w.Heap.Words)+m.made {
			t.Fatalf("drawn %d: %d words are made, want at most %d: %v", i, len(n.Heap.Words), m.made, x)
		}
		if _, _, e := run(t, w, x, fuel-m.fuel); e != api.OK {
			t.Fatalf("drawn %d: with just as much fuel: %v: %v", i, e, x)
		}
		if _, _, e := run(t, w, x, fuel-m.fuel-1); e != api.ErrFuel {
			t.Fatalf("drawn %d: with less fuel: %v: %v", i, e, x)
		}
		w.Heap.Limit = 50 + next(200)
		if n, y, e := run(t, w, x, fuel); e != api.ErrRoom && (e != api.OK || showAll(n, y, 7) != m.showAll(v, 7)) {
			t.Fatalf("drawn %d: on a small heap: %v: %v", i, e, x)
		}
	}
	for _, e := range []api.Errno{api.OK, api.ErrKind, api.ErrCount, api.ErrRange, api.ErrFuel, api.ErrRaise, api.ErrField, api.ErrDeep} {
		if told[e] < 5 {
			t.Errorf("only %d were told %v", told[e], e)
		}
	}
	if told[api.OK] < 1500 {
		t.Errorf("only %d did not fail", told[api.OK])
	}
}

// newModel with the globals of world, but that f is a function.
func newModel(f api.Expr, fuel int) *model {
	closure := value{thing: &thing{kind: api.Closure, lambda: f}}
	return &model{globals: map[string]value{"f": closure, "x": plainInt(2), "y": plainNil()}, fuel: fuel}
}

// Of drawn expressions there are as many functions as there must be, and all
// of them may be.
func TestP52DrawnExpressions(t *testing.T) {
	for i := range 1000 {
		next := newDice(i + 70000)
		d := drawer{next, 5 + next(300)}
		x := d.expr(nil)
		funcs, params := lambdas(x), len(x.Names)
		if x.Kind != api.Lambda {
			funcs, params = funcs+1, 0
		}
		base := next(50)
		w := world()
		for range base {
			w.Funcs = append(w.Funcs, constantly(i))
		}
		l, e := code.Compile(x, base)
		w.Funcs = append(w.Funcs, l...)
		if e != api.OK || len(l) != funcs || l[0].Params != params || l[0].Capts != 0 || vm.Check(w) != api.OK {
			t.Fatalf("drawn %d: %v, %d functions, of %d: %v", i, e, len(l), funcs, x)
		}
	}
}

// wild: an expression of which anything may be wrong.
func (d *drawer) wild(levels int, bound []string) api.Expr {
	d.left = 3
	x := d.spoilt(d.expr(bound), bound)
	if levels == 0 {
		return x
	}
	inner := slices.Concat(bound, x.Names)
	for i := range x.Args {
		if d.next(2) == 0 {
			x.Args[i] = d.wild(levels-1, inner)
		}
	}
	return x
}

// spoilt: an expression in which something may be another.
func (d *drawer) spoilt(x api.Expr, bound []string) api.Expr {
	words := []string{"a", "b", "n", "x", "p", "car", "if", "", "A", "+", "f", long(16), long(17)}
	switch d.next(20) {
	case 0:
		x.Kind = d.next(18) - 1
	case 1:
		x.S = d.one(words...)
	case 2:
		x.N = d.next(4) - 1
	case 3:
		x.Names = append(slices.Clone(x.Names), d.one(words...))
	case 4:
		x.Args = append(slices.Clone(x.Args), d.leaf(bound))
	case 5:
		x.Datum.Kind = d.next(6)
	case 6:
		return was(d.next(8) - 1)
	case 7:
		if len(x.Args) > 0 {
			x.Args = x.Args[1:]
		}
	}
	return x
}

// pureOne: an expression that a move may have, but for its leaves.
func (d *drawer) pureOne(levels int) api.Expr {
	k := d.next(6)
	if levels == 0 {
		k = d.next(3)
	}
	switch k {
	case 0:
		return was(d.next(8) - 1)
	case 1:
		return d.wild(1, nil)
	case 2:
		return d.leaf(nil)
	case 3:
		return branch(d.pureOne(levels-1), d.pureOne(levels-1), d.pureOne(levels-1))
	}
	return prim(d.one("+", "cons", "<"), d.pureOne(levels-1), d.pureOne(levels-1))
}

// plainCheck: P5.1, word by word; olds is -1 for what is in no upgrade.
func plainCheck(x api.Expr, bound []string, olds int) api.Errno {
	if e := plainCheckOne(x, bound, olds); e != api.OK {
		return e
	}
	for i, a := range x.Args {
		inner := slices.Clone(bound)
		if x.Kind == api.Lambda || x.Kind == api.Let && i+1 == len(x.Args) {
			inner = append(inner, x.Names...)
		}
		if len(inner) > 40 {
			return api.ErrSize
		}
		if e := plainCheck(a, inner, olds); e != api.OK {
			return e
		}
	}
	return api.OK
}

func plainCheckOne(x api.Expr, bound []string, olds int) api.Errno {
	isFree := func(s string) bool { return unit.CheckShape(api.Shape{Name: s}) == api.OK }
	isName := func(s string) bool { return read.Check(sym(s)) == api.OK }
	ok := func(l ...int) bool { return slices.Contains(l, len(x.Args)) }
	oneName := len(x.Names) == 1 && isName(x.Names[0])
	counted, named := false, true
	switch x.Kind {
	case api.Const, api.Was:
		counted = ok(0)
	case api.Local:
		counted, named = ok(0), slices.Contains(bound, x.S)
	case api.Global:
		counted, named = ok(0), isFree(x.S)
	case api.If:
		counted = ok(3)
	case api.Let:
		counted = ok(len(x.Names)+1) && ok(1, 2, 3, 4, 5, 6, 7)
	case api.Lambda:
		counted = ok(1) && len(x.Names) <= 6
	case api.Begin:
		counted = !ok(0, 1)
	case api.Set:
		counted, named = ok(1), x.N == 1 && slices.Contains(bound, x.S) || x.N == 0 && isFree(x.S)
	case api.Call:
		counted = ok(1, 2, 3, 4, 5, 6, 7)
	case api.Prim:
		counted = ok(2) && slices.Contains([]string{"+", "-", "*", "quotient", "remainder", "=", "<", "cons", "eq?"}, x.S) ||
			ok(1) && slices.Contains([]string{"car", "cdr", "null?", "pair?", "not", "error"}, x.S)
	case api.Make:
		counted, named = ok(0, 1, 2, 3, 4, 5, 6), isFree(x.S)
	case api.Is:
		counted, named = ok(1), isFree(x.S)
	case api.Get:
		counted, named = ok(1) && oneName, isFree(x.S)
	case api.Put:
		counted, named = ok(2) && oneName, isFree(x.S)
	default:
		return api.ErrKind
	}
	if x.Kind == api.Let || x.Kind == api.Lambda {
		for i, s := range x.Names {
			named = named && isFree(s) && !slices.Contains(x.Names[:i], s)
		}
	}
	switch {
	case !counted:
		return api.ErrCount
	case !named:
		return api.ErrNone
	case x.Kind == api.Const && read.Check(x.Datum) != api.OK, x.Kind == api.Was && (x.N < 0 || x.N >= olds):
		return api.ErrForm
	case olds >= 0 && !slices.Contains([]int{api.Const, api.If, api.Prim, api.Was}, x.Kind):
		return api.ErrPure
	}
	return api.OK
}

func TestP51DrawnExpressions(t *testing.T) {
	told := map[api.Errno]int{}
	for i := range 10000 {
		d := drawer{next: newDice(i + 300000)}
		x := d.wild(3, nil)
		want := plainCheck(x, nil, -1)
		told[want]++
		if got := code.Check(x); got != want {
			t.Fatalf("drawn %d: %v, want %v: %v", i, got, want, x)
		}
		l, e := code.Compile(x, 0)
		if e != want && !(want == api.OK && e == api.ErrSize && parts(x) > 40) || e != api.OK && len(l) != 0 {
			t.Fatalf("Compile of drawn %d: %v, want %v: %v", i, e, want, x)
		}
	}
	for _, e := range []api.Errno{api.OK, api.ErrKind, api.ErrCount, api.ErrNone, api.ErrForm} {
		if told[e] < 100 {
			t.Errorf("only %d were told %v", told[e], e)
		}
	}
}

func TestP51DrawnMoves(t *testing.T) {
	told := map[api.Errno]int{}
	for i := range 10000 {
		d := drawer{next: newDice(i + 500000)}
		x, olds := d.pureOne(3), d.next(7)
		want := plainCheck(x, nil, olds)
		told[want]++
		if got := code.CheckMove(x, olds); got != want {
			t.Fatalf("drawn %d: %v, want %v: %v", i, got, want, x)
		}
		f, e := code.Move(x, olds)
		if e != want || e == api.OK && (f.Params != olds || f.Capts != 0) || e != api.OK && len(f.Code) != 0 {
			t.Fatalf("Move of drawn %d: %v, want %v: %v", i, e, want, x)
		}
		if e == api.OK {
			upgraded(t, x, slices.Repeat([]api.Word{number(1)}, olds)...)
		}
	}
	for _, e := range []api.Errno{api.OK, api.ErrKind, api.ErrCount, api.ErrNone, api.ErrForm, api.ErrPure} {
		if told[e] < 40 {
			t.Errorf("only %d were told %v", told[e], e)
		}
	}
}
