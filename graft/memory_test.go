package graft_test

import (
	"reflect"
	"slices"
	"testing"

	"graftery/api"
	"graftery/graft"
)

// room that a list takes, with its spare room.
type room struct{ from, to uintptr }

// roomsOf all lists of a value, those within others, too.
func roomsOf(v reflect.Value) []room {
	var l []room
	switch v.Kind() {
	case reflect.Slice:
		if v.Cap() > 0 {
			l = append(l, room{v.Pointer(), v.Pointer() + uintptr(v.Cap())*v.Type().Elem().Size()})
		}
		for i := range v.Len() {
			l = append(l, roomsOf(v.Index(i))...)
		}
	case reflect.Struct:
		for i := range v.NumField() {
			l = append(l, roomsOf(v.Field(i))...)
		}
	}
	return l
}

// areApart: do no two lists share memory, in all of these?
func areApart(values ...any) bool {
	var l []room
	for _, x := range values {
		l = append(l, roomsOf(reflect.ValueOf(x))...)
	}
	slices.SortFunc(l, func(a, b room) int { return int(int64(a.from) - int64(b.from)) })
	for i := 1; i < len(l); i++ {
		if l[i].from < l[i-1].to {
			return false
		}
	}
	return true
}

// roomy: a value as it is, all of whose lists have spare room that is full of
// what they end with, in memory of its own. Empty lists have none.
func roomy[T any](x T) T { return roomyValue(reflect.ValueOf(x)).Interface().(T) }

func roomyValue(v reflect.Value) reflect.Value {
	r := reflect.New(v.Type()).Elem()
	switch v.Kind() {
	case reflect.Slice:
		n := v.Len()
		if n == 0 {
			return r
		}
		r = reflect.MakeSlice(v.Type(), 0, n+3)
		for i := range n + 3 {
			r = reflect.Append(r, roomyValue(v.Index(min(i, n-1))))
		}
		return r.Slice(0, n)
	case reflect.Struct:
		for i := range v.NumField() {
			r.Field(i).Set(roomyValue(v.Field(i)))
		}
	default:
		r.Set(v)
	}
	return r
}

// withSpare: a copy of a value as it is with the spare room of its lists.
func withSpare(x any) any { return spareValue(reflect.ValueOf(x)).Interface() }

func spareValue(v reflect.Value) reflect.Value {
	r := reflect.New(v.Type()).Elem()
	switch v.Kind() {
	case reflect.Slice:
		for i := range v.Cap() {
			r = reflect.Append(r, spareValue(v.Slice(0, v.Cap()).Index(i)))
		}
	case reflect.Struct:
		for i := range v.NumField() {
			r.Field(i).Set(spareValue(v.Field(i)))
		}
	default:
		r.Set(v)
	}
	return r
}

func TestArgumentsStayAndAnswersAreNew(t *testing.T) {
	for _, source := range []string{
		"", "(record r a b)", "(record q) (define x 5) (define f 3)", "(define (g n) (lambda () n))", "(define y '(1 2))",
		"(record p d e) (upgrade p (cons (was a) 1) (was b)) (record q a) (upgrade q 1) (record s) (define (f n) n) (define y (f x)) (define z 1)",
		"(record p a) (upgrade p (error 1))", "(record p a) (upgrade p (was a)) (define y (error 1))", "(define y (set! x '(1)))",
	} {
		w := roomy(known(t))
		u := roomy(form(t, w, source))
		world, unit := withSpare(w), withSpare(u)
		v, _ := graft.Env(w)
		same, _ := graft.Env(w)
		one, e := graft.Graft(w, u)
		two, f := graft.Graft(w, u)
		if !reflect.DeepEqual(withSpare(w), world) || !reflect.DeepEqual(withSpare(u), unit) {
			t.Errorf("%s: what was handed in is not as it was", source)
		}
		if !areApart(w, u, v, same, one, two) {
			t.Errorf("%s: lists share memory", source)
		}
		if e != f || !reflect.DeepEqual(v, same) || !reflect.DeepEqual(one, two) {
			t.Errorf("%s: two answers: %v, %v", source, one, two)
		}
	}
}

// Records that are told of one list, of an upgrade and of none.
func TestAnswersShareNothingOfOneUnit(t *testing.T) {
	fields := []string{"a", "b"}
	x := []api.Expr{was(0), was(1)}
	u := unitOf(shape("r", fields...), shape("s", fields...), shape("p", fields...), upgrade("p", x...), def("y", constant(1)), def("z", constant(1)))
	w := known(t)
	n := grafted(t, w, u)
	if !areApart(n, w) || !areApart(n, fields) || !areApart(n, x) {
		t.Errorf("%v: lists share memory", n)
	}
}
