package graft_test

import (
	"slices"
	"strconv"
	"strings"
	"testing"

	"graftery/api"
	"graftery/graft"
	"graftery/read"
	"graftery/unit"
	"graftery/vm"
)

// drawer draws units for a world.
type drawer struct {
	next  func(int) int
	world api.World
}

func (d *drawer) oneOf(l ...string) string { return l[d.next(len(l))] }

// all: some, with blanks between them.
func all(n int, one func() string) string {
	var l []string
	for range n {
		l = append(l, one())
	}
	return strings.Join(l, " ")
}

// fields of a record of the world, as it is now.
func (d *drawer) fields(name string) []string {
	for _, r := range d.world.Recs {
		if r.Name == name {
			return r.Vers[len(r.Vers)-1].Fields
		}
	}
	return nil
}

func (d *drawer) expr(n int) string {
	if n <= 0 {
		return d.oneOf("1", "n", "x", "y", "'a", "'(1 2)", "#f", "7", "(* 1099511627776 2)")
	}
	deeper := func() string { return d.expr(n - 1) }
	switch d.next(12) {
	case 0:
		return "(" + d.oneOf("+", "=", "eq?", "quotient") + " " + all(2, deeper) + ")"
	case 1:
		return "(if " + all(3, deeper) + ")"
	case 2, 3:
		return "(cons " + all(2, deeper) + ")"
	case 4:
		return "(lambda (k) (cons k " + deeper() + "))"
	case 5, 6, 7:
		name := d.oneOf("p", "q")
		return "(" + name + " " + all(d.next(3), deeper) + ")"
	case 8:
		return "(set! " + d.oneOf("x", "y", "n") + " " + deeper() + ")"
	case 9:
		return "(begin " + all(2, deeper) + ")"
	case 10:
		return "(f " + deeper() + ")"
	}
	return "(" + d.oneOf("car", "null?", "pair?", "error") + " " + deeper() + ")"
}

// move: an expression of the old fields of a record.
func (d *drawer) move(olds []string, n int) string {
	deeper := func() string { return d.move(olds, n-1) }
	switch d.next(10) {
	case 0:
		return d.oneOf("1", "'(1 2 3)", "'a", "(quotient 1 0)")
	case 1, 2, 3:
		if n > 0 {
			return "(cons " + all(2, deeper) + ")"
		}
	case 4:
		if n > 0 {
			return "(if " + all(3, deeper) + ")"
		}
	case 5:
		if n > 0 {
			return "(" + d.oneOf("car", "null?", "not", "error") + " " + deeper() + ")"
		}
	case 6:
		if n > 0 {
			return "(" + d.oneOf("+", "quotient", "eq?") + " " + all(2, deeper) + ")"
		}
	}
	if len(olds) == 0 {
		return "2"
	}
	return "(was " + d.oneOf(olds...) + ")"
}

// top form, or some.
func (d *drawer) top() string {
	name := d.oneOf("p", "q")
	switch d.next(9) {
	case 0, 1, 2:
		fields := slices.Clone([]string{"a", "b", "c"}[d.next(3):][:1])
		if d.next(2) == 0 {
			fields = append(fields, "d")
		}
		olds := d.fields(name)
		one := func() string { return d.move(olds, d.next(3)) }
		return "(record " + name + " " + strings.Join(fields, " ") + ") (upgrade " + name + " " + all(len(fields), one) + ")"
	case 3:
		return "(record " + name + " " + strings.Join(d.fields(name), " ") + ")"
	case 4, 5:
		return "(define (" + d.oneOf("f", "g", "x") + " n) " + d.expr(2) + ")"
	}
	return "(define " + d.oneOf("x", "y", "z"+strconv.Itoa(d.next(60))) + " (let ((n x)) " + d.expr(3) + "))"
}

// unit of some top forms that may be, now and then with something wrong.
func (d *drawer) unit() (api.Unit, bool) {
	l, _, e := read.Read(all(1+d.next(3), d.top))
	if e != api.OK {
		return api.Unit{}, false
	}
	v, _ := graft.Env(d.world)
	u, _, e := unit.Form(l, v)
	if e == api.OK && d.next(4) == 0 {
		for range 1 + d.next(2) {
			d.spoil(&u)
		}
	}
	return u, e == api.OK
}

// spoil a unit, perhaps.
func (d *drawer) spoil(u *api.Unit) {
	name := d.oneOf("p", "q", "r", "if", "x", "f")
	x := []api.Expr{constant(1), was(d.next(3)), global(name), lambda(global(name)), of(api.Make, name, nil), {}}[d.next(6)]
	switch d.next(6) {
	case 0:
		u.Shapes = slices.Insert(u.Shapes, d.next(len(u.Shapes)+1), shape(name, []string{"a", "b", "a"}[d.next(3):]...))
	case 1:
		u.Defs = slices.Insert(u.Defs, d.next(len(u.Defs)+1), def(name, x))
	case 2:
		u.Upgrades = slices.Insert(u.Upgrades, d.next(len(u.Upgrades)+1), upgrade(name, slices.Repeat([]api.Expr{x}, d.next(3))...))
	case 3:
		if len(u.Shapes) > 0 {
			u.Shapes = u.Shapes[1:]
		}
	case 4:
		if len(u.Upgrades) > 0 {
			u.Upgrades = u.Upgrades[1:]
		}
	case 5:
		slices.Reverse(u.Upgrades)
	}
}

// agrees: a unit comes into a world, or does not, just as the model has it.
func agrees(t *testing.T, w api.World, u api.Unit) (api.World, api.Errno) {
	t.Helper()
	want, e := (&model{w: w, u: u}).graft()
	got, f := graft.Graft(w, u)
	if e != f || !alike(got, want) {
		t.Fatalf("%v on %v: %v, want %v: %v, want %v", u, w, f, e, got, want)
	}
	if e == api.OK && vm.Check(got) != api.OK {
		t.Fatalf("%v on %v: a world that may not be: %v", u, w, got)
	}
	return got, e
}

// toldAll: was each of these told some times?
func toldAll(t *testing.T, told map[api.Errno]int, l ...api.Errno) {
	t.Helper()
	for _, e := range l {
		if told[e] < 5 {
			t.Errorf("%v was told but %d times", e, told[e])
		}
	}
}

func TestDrawnUnits(t *testing.T) {
	told := map[api.Errno]int{}
	for seed := range 400 {
		d := &drawer{next: newDice(seed)}
		d.world = grow(t, empty(api.MinHeap+d.next(200)), "(record p a) (record q) (define x (cons (p 1) (p '(2 3)))) (define (f n) (cons n x)) (define y (q))")
		for range 12 {
			u, ok := d.unit()
			if !ok {
				continue
			}
			w, e := agrees(t, d.world, u)
			told[e]++
			if e == api.OK {
				d.world = w
			}
		}
	}
	toldAll(t, told, api.OK, api.ErrRange, api.ErrKind, api.ErrForm, api.ErrNone, api.ErrTwice, api.ErrCount, api.ErrRaise, api.ErrPure)
}

// heapDrawer draws a heap for a world: most of what is there lives.
type heapDrawer struct {
	*drawer
	words  []api.Word
	begins []int
	loose  []int // begins of what nobody has yet
}

// value: one of what nobody has yet, or another one.
func (d *heapDrawer) value() api.Word {
	switch n := d.next(8); {
	case n < 4 && len(d.loose) > 0:
		return d.take()
	case n == 4 && len(d.begins) > 0:
		return ref(d.begins[d.next(len(d.begins))])
	case n == 5:
		return null()
	}
	return number(d.next(3))
}

// take the last one that nobody has.
func (d *heapDrawer) take() api.Word {
	i := len(d.loose) - 1
	w := ref(d.loose[i])
	d.loose = d.loose[:i]
	return w
}

// thing with so many values.
func (d *heapDrawer) thing(values int, front ...api.Word) {
	at := len(d.words)
	d.words = append(d.words, front...)
	for range values {
		d.words = append(d.words, d.value())
	}
	d.begins, d.loose = append(d.begins, at), append(d.loose, at)
}

// draw pairs, boxes and records of all versions, so many words or a few more;
// there is not much room beside them.
func (d *heapDrawer) draw(words int) {
	for len(d.words) < words {
		switch d.next(8) {
		case 0:
			d.thing(2, api.Word{Kind: api.Pair})
		case 1:
			d.thing(1, api.Word{Kind: api.Box})
		default:
			i := d.next(len(d.world.Recs))
			version := d.next(len(d.world.Recs[i].Vers))
			values := len(d.world.Recs[i].Vers[version].Fields)
			d.thing(values, api.Word{Kind: api.Record, N: i}, number(version), number(values))
		}
	}
	last := null()
	for len(d.loose) > 0 && d.next(20) > 0 {
		at := len(d.words)
		d.words = append(d.words, api.Word{Kind: api.Pair}, d.take(), last)
		last = ref(at)
	}
	for i := range d.world.Globs {
		d.world.Globs[i].Value = d.value()
	}
	d.world.Globs[0].Value = last
	d.world.Heap = api.Heap{Words: d.words, Limit: max(api.MinHeap, len(d.words)+d.next(15))}
}

// Heaps that are nearly full: whatever is tried finds as much room for itself,
// and is refused, as the model has it.
func TestDrawnTrials(t *testing.T) {
	told := map[api.Errno]int{}
	crowded := 0 // there is room for each one, but not for all at once
	for seed := range 2000 {
		d := &drawer{next: newDice(seed)}
		d.world = grow(t, empty(200), "(record p a) (record q b) (define x 1) (define y 1) (define z 1)",
			"(record p c d) (upgrade p (was a) (cons 1 2))", "(record p a) (upgrade p (was d)) (record q) (upgrade q)")
		(&heapDrawer{drawer: d}).draw(50 + d.next(60))
		l, _, _ := read.Read("(record p a b) (upgrade p " + all(2, func() string { return d.move([]string{"a"}, d.next(3)) }) + ")")
		v, _ := graft.Env(d.world)
		u, _, e := unit.Form(l, v)
		if e != api.OK {
			t.Fatal(e)
		}
		w, e := agrees(t, d.world, u)
		told[e]++
		if e == api.OK {
			if _, _, e := vm.Settle(w, null()); e == api.ErrRoom {
				crowded++
			}
		}
	}
	toldAll(t, told, api.OK, api.ErrRange, api.ErrKind, api.ErrRoom, api.ErrRaise)
	if crowded < 50 {
		t.Errorf("only %d were crowded", crowded)
	}
}
