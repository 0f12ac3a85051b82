package code_test

import (
	"reflect"
	"slices"
	"testing"

	"graftery/api"
	"graftery/code"
)

// room that a list takes, with its spare room.
type room struct{ from, to uintptr }

// roomsOf all lists of a value, those within others, too.
func roomsOf(v reflect.Value) []room {
	var l []room
	switch v.Kind() {
	case reflect.Slice:
		if v.Cap() > 0 {
			l = append(l, room{v.Pointer(), v.Pointer() + uintptr(v.Cap())*v.Type().Elem().Size()})
		}
		for i := range v.Len() {
			l = append(l, roomsOf(v.Index(i))...)
		}
	case reflect.Struct:
		for i := range v.NumField() {
			l = append(l, roomsOf(v.Field(i))...)
		}
	}
	return l
}

// areApart: do no two lists share memory, in all of these?
func areApart(values ...any) bool {
	var l []room
	for _, x := range values {
		l = append(l, roomsOf(reflect.ValueOf(x))...)
	}
	slices.SortFunc(l, func(a, b room) int { return int(int64(a.from) - int64(b.from)) })
	for i := 1; i < len(l); i++ {
		if l[i].from < l[i-1].to {
			return false
		}
	}
	return true
}

// roomy: a list with spare room that is not empty.
func roomy[T any](l []T, spare T) []T {
	r := append(make([]T, 0, len(l)+3), l...)
	for i := len(l); i < cap(r); i++ {
		r[:cap(r)][i] = spare
	}
	return r
}

// roomyExpr: an expression all of whose lists are so, in memory of its own.
func roomyExpr(x api.Expr) api.Expr {
	var l []api.Expr
	for _, a := range x.Args {
		l = append(l, roomyExpr(a))
	}
	x.Args, x.Names, x.Datum = roomy(l, local("spare")), roomy(x.Names, "spare"), roomyDatum(x.Datum)
	return x
}

func roomyDatum(d api.Datum) api.Datum {
	var l []api.Datum
	for _, x := range d.Items {
		l = append(l, roomyDatum(x))
	}
	d.Items = roomy(l, sym("spare"))
	return d
}

// withSpare: an expression as it is with the spare room of its lists, as a
// copy.
func withSpare(x api.Expr) api.Expr {
	var l []api.Expr
	for _, a := range x.Args[:cap(x.Args)] {
		l = append(l, withSpare(a))
	}
	x.Args, x.Names, x.Datum = l, slices.Clone(x.Names[:cap(x.Names)]), datumWithSpare(x.Datum)
	return x
}

func datumWithSpare(d api.Datum) api.Datum {
	var l []api.Datum
	for _, x := range d.Items[:cap(d.Items)] {
		l = append(l, datumWithSpare(x))
	}
	d.Items = l
	return d
}

const allKinds = `(lambda (n m) (let ((k '(1 (a) ())) (l (lambda () (begin (set! n (f x m)) (set! x (+ n 1)))))) (if (p? k) (p-a! (p 1 (p-b k)) (q)) (l))))`

func TestArgumentsStayAndAnswersAreNew(t *testing.T) {
	for _, x := range []api.Expr{
		parse(t, allKinds), parse(t, "(begin "+allKinds+" "+allKinds+")"), parse(t, "1"), parse(t, "(lambda () 1)"),
		{}, begin(one(), local("n")), bound(40, let([]string{"k"}, one(), one())), begin(ones(2000)...),
		branch(was(1), prim("cons", was(0), constant(list(num(1), list()))), one()), prim("car", was(7)),
	} {
		x = roomyExpr(x)
		before := withSpare(x)
		code.Check(x)
		code.CheckMove(x, 2)
		one, e := code.Compile(x, 3)
		two, same := code.Compile(x, 3)
		other, _ := code.Compile(x, 5)
		move, f := code.Move(x, 2)
		again, g := code.Move(x, 2)
		if !reflect.DeepEqual(withSpare(x), before) {
			t.Errorf("%v: what was handed in is not as it was", x)
		}
		if !areApart(x, one, two, other, move, again) {
			t.Errorf("%v: lists share memory", x)
		}
		if e != same || f != g || !reflect.DeepEqual(one, two) || !reflect.DeepEqual(move, again) {
			t.Errorf("%v: two answers: %v, %v", x, one, two)
		}
	}
}

// Fields of instructions that their operators have not are 0.
func TestAnswersHaveNothingMore(t *testing.T) {
	l, e := code.Compile(parse(t, "(begin "+allKinds+" '(1 a #t))"), 3)
	if e != api.OK {
		t.Fatal(e)
	}
	withA := []int{api.OLocal, api.OStore, api.OCapt, api.OClose, api.OCall, api.OTail, api.OJump, api.OElse, api.OPrim, api.OMake}
	withS := []int{api.OGlobal, api.OAssign, api.OPrim, api.OMake, api.OIs, api.OGet, api.OPut}
	for _, f := range l {
		for _, in := range f.Code {
			more := in.A != 0 && !slices.Contains(withA, in.Op) || in.B != 0 && in.Op != api.OClose || in.S != "" && !slices.Contains(withS, in.Op) ||
				in.T != "" && in.Op != api.OGet && in.Op != api.OPut || in.W != (api.Word{}) && in.Op != api.OConst
			if more {
				t.Errorf("%v", in)
			}
		}
	}
}
