package vm_test

import (
	"reflect"
	"slices"
	"testing"

	"graftery/api"
	"graftery/vm"
)

// room that a list takes, with its spare room.
type room struct{ from, to uintptr }

// roomsOf all lists of a value, those within others, too.
func roomsOf(v reflect.Value) []room {
	var l []room
	switch v.Kind() {
	case reflect.Slice:
		if v.Cap() > 0 {
			l = append(l, room{v.Pointer(), v.Pointer() + uintptr(v.Cap())*v.Type().Elem().Size()})
		}
		for i := range v.Len() {
			l = append(l, roomsOf(v.Index(i))...)
		}
	case reflect.Struct:
		for i := range v.NumField() {
			l = append(l, roomsOf(v.Field(i))...)
		}
	}
	return l
}

// areApart: do no two lists share memory, in all of these?
func areApart(values ...any) bool {
	var l []room
	for _, x := range values {
		l = append(l, roomsOf(reflect.ValueOf(x))...)
	}
	slices.SortFunc(l, func(a, b room) int { return int(int64(a.from) - int64(b.from)) })
	for i := 1; i < len(l); i++ {
		if l[i].from < l[i-1].to {
			return false
		}
	}
	return true
}

// roomy: a list with spare room that is not empty.
func roomy[T any](l []T, spare T) []T {
	r := append(make([]T, 0, len(l)+3), l...)
	for i := len(l); i < cap(r); i++ {
		r[:cap(r)][i] = spare
	}
	return r
}

// roomyWorld: all its lists are so.
func roomyWorld(w api.World) api.World {
	w = vm.Copy(w)
	for i, f := range w.Funcs {
		w.Funcs[i].Code = roomy(f.Code, prim("car"))
	}
	for i, r := range w.Recs {
		for j, s := range r.Vers {
			r.Vers[j].Fields = roomy(s.Fields, "spare")
		}
		for j, l := range r.Moves {
			r.Moves[j] = roomy(l, 77)
		}
		w.Recs[i].Vers = roomy(r.Vers, shape("spare"))
		w.Recs[i].Moves = roomy(r.Moves, []int{7})
	}
	w.Funcs = roomy(w.Funcs, api.Func{Params: 3})
	w.Globs = roomy(w.Globs, glob("spare", num(1)))
	w.Recs = roomy(w.Recs, rec("spare"))
	w.Heap.Words = roomy(w.Heap.Words, sym("spare"))
	return w
}

// withSpare: a world as it is with the spare room of its lists, as a copy.
func withSpare(w api.World) api.World {
	w.Funcs, w.Globs, w.Recs, w.Heap.Words = w.Funcs[:cap(w.Funcs)], w.Globs[:cap(w.Globs)], slices.Clone(w.Recs[:cap(w.Recs)]), w.Heap.Words[:cap(w.Heap.Words)]
	w.Funcs = slices.Clone(w.Funcs)
	for i, f := range w.Funcs {
		w.Funcs[i].Code = f.Code[:cap(f.Code)]
	}
	for i, r := range w.Recs {
		r.Vers, r.Moves = slices.Clone(r.Vers[:cap(r.Vers)]), slices.Clone(r.Moves[:cap(r.Moves)])
		for j, s := range r.Vers {
			r.Vers[j].Fields = s.Fields[:cap(s.Fields)]
		}
		for j, l := range r.Moves {
			r.Moves[j] = l[:cap(l)]
		}
		w.Recs[i] = r
	}
	return vm.Copy(w)
}

// answers of all calls.
func answers(w api.World, x api.Word, front, values []api.Word, f api.Func) []outcome {
	return []outcome{
		{code: vm.Check(w)},
		{world: vm.Copy(w)},
		of(vm.Call(w, x, values, 9)),
		of(vm.Run(w, f, 9)),
		of(vm.Touch(w, x)),
		of(vm.Settle(w, x)),
		of(vm.Put(w, front, values)),
	}
}

func TestArgumentsStayAndAnswersAreNew(t *testing.T) {
	big := grown(ref(0), ref(4), heapOf(60, record(0, 0, num(5)), pair(ref(0), null()), closure(1), closure(0)))
	tight := big
	tight.Heap.Limit = 50
	tight.Heap.Words = slices.Concat(tight.Heap.Words, slices.Repeat(box(null()), 19))
	empty := api.World{Heap: api.Heap{Limit: 50}}
	f := function(0, global("x"), get("p", "c"), assign("y"), constant(num(1)), boxed)
	f.Code = roomy(f.Code, prim("car"))
	for _, w := range []api.World{big, tight, empty, {}, badWorlds()[4]} {
		w = roomyWorld(w)
		for _, x := range words(ref(0), ref(4), ref(7), ref(9), num(1), ref(77)) {
			for _, l := range [][]api.Word{nil, words(num(1)), words(num(1), ref(0)), words(api.Word{})} {
				front, values := roomy(pair(null(), null())[:1], sym("spare")), roomy(l, sym("spare"))
				before := []any{withSpare(w), slices.Clone(front[:cap(front)]), slices.Clone(values[:cap(values)]), slices.Clone(f.Code[:cap(f.Code)])}
				one, two := answers(w, x, front, values, f), answers(w, x, front, values, f)
				after := []any{withSpare(w), front[:cap(front)], values[:cap(values)], f.Code[:cap(f.Code)]}
				if !reflect.DeepEqual(before, after) {
					t.Errorf("%v, %v, %v: what was handed in is not as it was", short(w), x, l)
				}
				if !areApart(lists(one, two, w, front, values, f.Code)...) {
					t.Errorf("%v, %v, %v: lists share memory", short(w), x, l)
				}
				for i := range one {
					agreeing(t, one[i], two[i])
				}
			}
		}
	}
}

// lists: the worlds of outcomes, and others.
func lists(one, two []outcome, more ...any) []any {
	for _, o := range slices.Concat(one, two) {
		more = append(more, o.world)
	}
	return more
}

func agreeing(t *testing.T, a, b outcome) {
	t.Helper()
	if a.code != b.code || a.value != b.value || !same(a.world, b.world) {
		t.Errorf("two answers: %v, %v", a, b)
	}
}
