package unit_test

import (
	"reflect"
	"slices"
	"testing"

	"graftery/api"
	"graftery/unit"
)

// room that a list takes, with its spare room.
type room struct{ from, to uintptr }

// rooms of all lists of a value.
func rooms(v reflect.Value) []room {
	var l []room
	switch v.Kind() {
	case reflect.Slice:
		if v.Cap() > 0 {
			l = append(l, room{v.Pointer(), v.Pointer() + uintptr(v.Cap())*v.Type().Elem().Size()})
		}
		for i := range v.Len() {
			l = append(l, rooms(v.Index(i))...)
		}
	case reflect.Struct:
		for i := range v.NumField() {
			l = append(l, rooms(v.Field(i))...)
		}
	}
	return l
}

// areApart: do no two lists of all these values share memory?
func areApart(values ...any) bool {
	var l []room
	for _, v := range values {
		l = append(l, rooms(reflect.ValueOf(v))...)
	}
	slices.SortFunc(l, func(a, b room) int {
		if a.from < b.from {
			return -1
		}
		return 1
	})
	for i := 1; i < len(l); i++ {
		if l[i].from < l[i-1].to {
			return false
		}
	}
	return true
}

// roomy: data whose lists all have spare room, those without items, too.
func roomy(l []api.Datum) []api.Datum {
	r := make([]api.Datum, 0, len(l)+3)
	for _, d := range l {
		d.Items = roomy(d.Items)
		r = append(r, d)
	}
	spare := r[:cap(r)]
	for i := len(l); i < len(spare); i++ {
		spare[i] = sym("spare")
	}
	return r
}

// roomyNames: so.
func roomyNames(l []string) []string {
	r := append(make([]string, 0, len(l)+2), l...)
	spare := r[:cap(r)]
	for i := len(l); i < len(spare); i++ {
		spare[i] = "spare"
	}
	return r
}

// fullData: data with their spare room, as a copy.
func fullData(l []api.Datum) []api.Datum {
	var c []api.Datum
	for _, d := range l[:cap(l)] {
		d.Items = fullData(d.Items)
		c = append(c, d)
	}
	return c
}

func fullEnv(v api.Env) api.Env {
	c := api.Env{Globals: slices.Clone(v.Globals[:cap(v.Globals)])}
	for _, s := range v.Shapes[:cap(v.Shapes)] {
		c.Shapes = append(c.Shapes, api.Shape{Name: s.Name, Fields: slices.Clone(s.Fields[:cap(s.Fields)])})
	}
	return c
}

func roomyEnv() api.Env {
	v := api.Env{Globals: roomyNames([]string{"f", "x", "y"}), Shapes: make([]api.Shape, 0, 5)}
	v.Shapes = append(v.Shapes, shape("p", roomyNames([]string{"a", "b"})...), shape("q", roomyNames(nil)...))
	v.Shapes[:4][3] = shape("spare", "spare")
	return v
}

const allKinds = `(record p a b c) (record r) (upgrade p (if (was a) '(1 (2) () (3)) '()) 1 (cons #t (was b)))
	(define x '(a (b ()) c)) (define z 1)
	(define (g k l) (let ((m k) (n 1)) (set! m '(k)) (f m '(k) '())) (p-a! (p 1 2 k) (p-a x)) (p? (q)) (lambda (k l) k) (lambda () 1))`

func TestArgumentsStayAndAnswersAreNew(t *testing.T) {
	for _, s := range []string{allKinds, "(record p a) (define (g n) zz)", "(record p a a)", "", "(define g 1)"} {
		l, v := roomy(data(t, s)), roomyEnv()
		wantData, wantEnv := fullData(l), fullEnv(v)
		one, _, e := unit.Form(l, v)
		two, _, _ := unit.Form(l, v)
		after, again := unit.Shapes(v, one), unit.Shapes(v, one)
		unit.Check(v)
		unit.CheckShape(v.Shapes[0])
		if !reflect.DeepEqual(fullData(l), wantData) || !reflect.DeepEqual(fullEnv(v), wantEnv) {
			t.Errorf("%s: what was handed in is not as it was", s)
		}
		if !areApart(l, v, one, two, after, again) {
			t.Errorf("%s: lists share memory", s)
		}
		if tellUnit(one) != tellUnit(two) {
			t.Errorf("%s: two answers: %s, %s", s, tellUnit(one), tellUnit(two))
		}
		if s == allKinds && e != api.OK {
			t.Errorf("%s: %v", s, e)
		}
	}
}
