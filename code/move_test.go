package code_test

import (
	"slices"
	"testing"

	"graftery/api"
	"graftery/code"
	"graftery/vm"
)

// upgraded: a world with a Record of fields with these values, and a version
// more, of one field, that an expression makes of them.
func upgraded(t *testing.T, x api.Expr, values ...api.Word) api.World {
	t.Helper()
	f, e := code.Move(x, len(values))
	if e != api.OK {
		t.Fatalf("%v: %v", x, e)
	}
	if f.Params != len(values) || f.Capts != 0 {
		t.Errorf("%v: %v", x, f)
	}
	w := world()
	w.Funcs = []api.Func{constantly(9), f}
	w.Recs[0] = api.Rec{Name: "p", Vers: []api.Shape{{Name: "p", Fields: names("a", len(values))}, {Name: "p", Fields: []string{"n"}}}, Moves: [][]int{{1}}}
	w.Heap.Words = slices.Concat([]api.Word{{Kind: api.Pair}, number(1), null(), {Kind: api.Record}, number(0), number(len(values))}, values)
	if vm.Check(w) != api.OK {
		t.Fatalf("%v: its function may not stand in Moves: %v", x, f)
	}
	return w
}

// becomes: what an expression makes of old values.
func becomes(t *testing.T, x api.Expr, want string, values ...api.Word) {
	t.Helper()
	w, v, e := vm.Touch(upgraded(t, x, values...), api.Word{Kind: api.Ref, N: 3})
	if e != api.OK {
		t.Errorf("%v of %v: %v", x, values, e)
		return
	}
	if got := show(w.Heap, v, 9); got != "[record0 "+want+"]" {
		t.Errorf("%v of %v: %s, want %s", x, values, got, want)
	}
}

// doesNot: an expression can't make anything of old values.
func doesNot(t *testing.T, x api.Expr, want api.Errno, values ...api.Word) {
	t.Helper()
	if _, _, e := vm.Touch(upgraded(t, x, values...), api.Word{Kind: api.Ref, N: 3}); e != want {
		t.Errorf("%v of %v: %v, want %v", x, values, e, want)
	}
}

func TestP56Moves(t *testing.T) {
	pair := api.Word{Kind: api.Ref}
	becomes(t, one(), "1")
	becomes(t, one(), "1", number(7))
	becomes(t, constant(list(sym("a"), list(num(2)))), "[pair a [pair [pair 2 ()] ()]]")
	becomes(t, was(0), "7", number(7))
	becomes(t, was(0), "[pair 1 ()]", pair)
	for i := range 6 {
		becomes(t, was(i), string(rune('0'+i)), number(0), number(1), number(2), number(3), number(4), number(5))
	}
	becomes(t, prim("+", was(1), prim("*", was(0), was(0))), "52", number(7), number(3))
	becomes(t, prim("car", was(1)), "1", number(7), pair)
	becomes(t, prim("cons", was(1), was(0)), "[pair () 7]", number(7), null())
	choose := branch(was(0), was(1), prim("cons", was(1), branch(was(0), one(), was(2))))
	becomes(t, choose, "1", number(0), number(1), number(2))
	becomes(t, choose, "[pair 1 2]", api.Word{Kind: api.Bool}, number(1), number(2))
	becomes(t, prim("not", choose), "#f", api.Word{Kind: api.Bool}, number(1), number(2))
}

func TestP56MovesThatFail(t *testing.T) {
	doesNot(t, prim("error", was(0)), api.ErrRaise, number(1))
	doesNot(t, prim("car", was(0)), api.ErrKind, number(1))
	doesNot(t, prim("quotient", was(0), was(1)), api.ErrRange, number(1), number(0))
	doesNot(t, prim("+", prim("car", was(0)), prim("error", was(0))), api.ErrKind, number(1))
}

// A Move costs what its expression costs, where it is called as a function.
func TestP56Fuel(t *testing.T) {
	f, e := code.Move(branch(prim("=", was(0), one()), constant(list(num(1), num(2))), was(0)), 1)
	w := world()
	w.Funcs = []api.Func{f}
	w, v, _ := vm.Put(w, []api.Word{{Kind: api.Closure}, number(0)}, nil)
	for fuel := range 8 {
		want := api.ErrFuel
		if fuel >= 5 {
			want = api.OK
		}
		if _, _, got := vm.Call(w, v, []api.Word{number(1)}, fuel); e != api.OK || got != want {
			t.Errorf("with %d of the fuel: %v, want %v", fuel, got, want)
		}
	}
}

// adding: so many numbers are added to one. Each takes four instructions: two
// ticks, a constant and a primitive.
func adding(n int) api.Expr {
	x := one()
	for range n {
		x = prim("+", x, one())
	}
	return x
}

func TestP56MostInstructions(t *testing.T) {
	for n := 1400; n <= 1600; n++ {
		f, e := code.Move(adding(n), 2)
		switch {
		case 3+4*n <= api.MaxCode && (e != api.OK || len(f.Code) != 3+4*n):
			t.Errorf("%d: %v, %d instructions", n, e, len(f.Code))
		case 3+4*n > api.MaxCode && (e != api.ErrSize || len(f.Code) != 0 || f.Params != 0 || f.Locals != 0):
			t.Errorf("%d: %v, %v", n, e, f)
		}
	}
	ofItems := func(n int) api.Expr { return constant(list(slices.Repeat([]api.Datum{num(1)}, n)...)) }
	for i, c := range []struct {
		x    api.Expr
		want api.Errno
	}{
		{prim("not", adding(1498)), api.OK},
		{prim("not", adding(1499)), api.ErrSize}, // 6001 instructions
		{ofItems(2998), api.OK},
		{ofItems(2999), api.ErrSize},                  // 6001
		{branch(one(), one(), ofItems(2995)), api.OK}, // 6000
		{branch(one(), one(), ofItems(2996)), api.ErrSize},
	} {
		f, e := code.Move(c.x, 6)
		if e != c.want || c.x.Kind == api.If && e == api.OK && len(f.Code) != api.MaxCode {
			t.Errorf("case %d: %d instructions, %v, want %v", i, len(f.Code), e, c.want)
		}
	}
	if _, e := code.Move(begin(adding(2000), one()), 0); e != api.ErrPure {
		t.Error(e)
	}
	if _, e := code.Move(adding(2000), 7); e != api.ErrRange {
		t.Error(e)
	}
}
