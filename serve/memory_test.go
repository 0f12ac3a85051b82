package serve_test

import (
	"reflect"
	"slices"
	"testing"

	"graftery/api"
	"graftery/serve"
)

// room that a list takes, with its spare room.
type room struct{ from, to uintptr }

// roomsOf all lists of a value, those within others, too.
func roomsOf(v reflect.Value) []room {
	var l []room
	switch v.Kind() {
	case reflect.Slice:
		if v.Cap() > 0 {
			l = append(l, room{v.Pointer(), v.Pointer() + uintptr(v.Cap())*v.Type().Elem().Size()})
		}
		for i := range v.Len() {
			l = append(l, roomsOf(v.Index(i))...)
		}
	case reflect.Struct:
		for i := range v.NumField() {
			l = append(l, roomsOf(v.Field(i))...)
		}
	}
	return l
}

// areApart: do no two lists share memory, in all of these?
func areApart(values ...any) bool {
	var l []room
	for _, x := range values {
		l = append(l, roomsOf(reflect.ValueOf(x))...)
	}
	slices.SortFunc(l, func(a, b room) int { return int(int64(a.from) - int64(b.from)) })
	for i := 1; i < len(l); i++ {
		if l[i].from < l[i-1].to {
			return false
		}
	}
	return true
}

// roomy: a value as it is, all of whose lists have spare room that is full of
// what they end with, in memory of its own. Empty lists have none.
func roomy[T any](x T) T { return roomyValue(reflect.ValueOf(x)).Interface().(T) }

func roomyValue(v reflect.Value) reflect.Value {
	r := reflect.New(v.Type()).Elem()
	switch v.Kind() {
	case reflect.Slice:
		n := v.Len()
		if n == 0 {
			return r
		}
		r = reflect.MakeSlice(v.Type(), 0, n+3)
		for i := range n + 3 {
			r = reflect.Append(r, roomyValue(v.Index(min(i, n-1))))
		}
		return r.Slice(0, n)
	case reflect.Struct:
		for i := range v.NumField() {
			r.Field(i).Set(roomyValue(v.Field(i)))
		}
	default:
		r.Set(v)
	}
	return r
}

// withSpare: a copy of a value as it is with the spare room of its lists.
func withSpare(x any) any { return spareValue(reflect.ValueOf(x)).Interface() }

func spareValue(v reflect.Value) reflect.Value {
	r := reflect.New(v.Type()).Elem()
	switch v.Kind() {
	case reflect.Slice:
		for i := range v.Cap() {
			r = reflect.Append(r, spareValue(v.Slice(0, v.Cap()).Index(i)))
		}
	case reflect.Struct:
		for i := range v.NumField() {
			r.Field(i).Set(spareValue(v.Field(i)))
		}
	default:
		r.Set(v)
	}
	return r
}

func TestRunArgumentsStayAndAnswersAreNew(t *testing.T) {
	define := source("(record p a) (define x (p '(1 (2)))) (define (f n) (cons x n)) (define (g n m) (set! x n))")
	upgrade := source("(record p a b) (upgrade p (was a) '(3)) (record q a)")
	for _, l := range [][]api.Act{
		nil, {{}}, {define}, {define, ask("f", 100, nums(3))},
		{define, ask("f", 100, list(num(1), list(sym("a")))), upgrade, ask("f", 100, nums(2)), collect(), ask("g", 100, nums(3), list(nums(2))), ask("f", 100, num(1))},
		{define, upgrade, ask("f", 100, api.Datum{Kind: 7, Items: []api.Datum{num(1)}}), source("("), ask("h", 1, nums(2))},
		slices.Repeat([]api.Act{define}, api.MaxActs+1),
	} {
		l = roomy(l)
		before := withSpare(l)
		one, w, e := serve.Run(500, l)
		two, v, f := serve.Run(500, l)
		if !reflect.DeepEqual(withSpare(l), before) {
			t.Errorf("%v: what was handed in is not as it was", l)
		}
		if !areApart(l, one, two, w, v) {
			t.Errorf("%v: lists share memory", l)
		}
		if e != f || !reflect.DeepEqual(one, two) || !reflect.DeepEqual(w, v) {
			t.Errorf("%v: two answers: %v, %v and %v, %v", l, one, w, two, v)
		}
	}
}

func TestShowArgumentsStayAndAnswersAreNew(t *testing.T) {
	w := roomy(olds(t))
	bad := roomy(w)
	bad.Recs[0].Moves = nil
	for _, world := range []api.World{w, bad, {}} {
		for _, x := range []api.Word{number(1), ref(0), ref(1), ref(-1)} {
			before := withSpare(world)
			one, text, e := serve.Show(world, x)
			two, same, f := serve.Show(world, x)
			if !reflect.DeepEqual(withSpare(world), before) {
				t.Errorf("%v: what was handed in is not as it was", x)
			}
			if !areApart(world, one, two) {
				t.Errorf("%v: lists share memory", x)
			}
			if e != f || text != same || !reflect.DeepEqual(one, two) {
				t.Errorf("%v: two answers: %s, %v and %s, %v", x, text, one, same, two)
			}
		}
	}
}
