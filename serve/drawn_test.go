package serve_test

import (
	"fmt"
	"slices"
	"strings"
	"testing"

	"graftery/api"
	"graftery/vm"
)

// drawer draws acts for what a model has.
type drawer struct {
	next  func(int) int
	model *model
}

func (d *drawer) oneOf(l ...string) string { return l[d.next(len(l))] }

// some: so many, with blanks between them.
func some(n int, one func() string) string {
	var l []string
	for range n {
		l = append(l, one())
	}
	return strings.Join(l, " ")
}

// field of a record as it is now, mostly.
func (d *drawer) field(record string) string {
	l := d.model.shape(record).Fields
	if len(l) == 0 || d.next(20) == 0 {
		return "a"
	}
	return d.oneOf(l...)
}

func (d *drawer) expr(n int) string {
	if n <= 0 {
		return d.oneOf("1", "2", "n", "n", "x", "y", "'a", "'(1 (2) 3)", "'()", "#f", "(car y)")
	}
	deeper := func() string { return d.expr(n - 1) }
	record := d.oneOf("p", "p", "q")
	switch d.next(18) {
	case 0, 1:
		return "(" + d.oneOf("+", "-", "*", "=", "<", "eq?", "quotient") + " " + some(2, deeper) + ")"
	case 2:
		return "(if " + some(3, deeper) + ")"
	case 3, 4:
		return "(cons " + some(2, deeper) + ")"
	case 5:
		return "(let ((u " + deeper() + ") (n " + deeper() + ")) (begin (set! u (cons n u)) (lambda () (set! n u)) u))"
	case 6:
		return "((lambda (k) (cons k " + deeper() + ")) " + deeper() + ")"
	case 7, 8:
		fields := len(d.model.shape(record).Fields)
		if d.next(10) == 0 {
			fields++
		}
		return "(" + record + " " + some(min(fields, api.MaxFields), deeper) + ")"
	case 9, 10:
		return "(" + record + "-" + d.field(record) + " " + d.oneOf("x", "(car y)", deeper()) + ")"
	case 11, 12:
		return "(" + record + "-" + d.field(record) + "! " + d.oneOf("x", "x", "(car y)") + " " + deeper() + ")"
	case 13:
		return "(" + d.oneOf("f", "g") + " (- n 1))"
	case 14:
		return "(begin (set! y (cons " + deeper() + " " + d.oneOf("y", "'()") + ")) x)"
	case 15:
		return "(begin (set! x " + deeper() + ") y)"
	case 16:
		return "(let ((h (lambda (i) (begin (set! n (cons n i)) (f 0))))) (begin (set! y (cons h y)) n))"
	}
	return "(" + d.oneOf("car", "cdr", "null?", "not", "p?", "q?", "pair?") + " " + deeper() + ")"
}

// move: an expression of the old fields of a record.
func (d *drawer) move(olds []string) string {
	if len(olds) == 0 || d.next(5) == 0 {
		return d.oneOf("1", "'(1 2)", "'()", "(cons 1 2)", "(quotient 8 3)", "(error 1)")
	}
	old := "(was " + d.oneOf(olds...) + ")"
	switch d.next(16) {
	case 0:
		return "(cons " + old + " (was " + d.oneOf(olds...) + "))"
	case 1:
		return "(if (pair? " + old + ") (car " + old + ") " + old + ")"
	case 2:
		return "(eq? " + old + " (was " + d.oneOf(olds...) + "))"
	case 3:
		return "(+ " + old + " 1)"
	case 4:
		return "(car " + old + ")"
	case 5:
		return "(quotient 6 " + old + ")"
	}
	return old
}

func (d *drawer) upgrade() string {
	name := d.oneOf("p", "p", "q")
	fields := []string{"a", "b", "c", "d"}
	first := d.next(4)
	fields = slices.Concat(fields[first:], fields[:first])[:d.next(4)]
	olds := d.model.shape(name).Fields
	moves := some(len(fields), func() string { return d.move(olds) })
	return "(record " + name + " " + strings.Join(fields, " ") + ") (upgrade " + name + " " + moves + ") "
}

func (d *drawer) source() string {
	s := ""
	for range d.next(3) {
		s += d.upgrade()
	}
	switch d.next(4) {
	case 0, 1:
		s += "(define (" + d.oneOf("f", "g") + " n) " + d.expr(3) + ")"
	case 2:
		s += "(define " + d.oneOf("y", "u", "v") + " (let ((n 1)) " + d.expr(2) + "))"
	}
	return s
}

func (d *drawer) act() api.Act {
	switch d.next(10) {
	case 0, 1, 2, 3:
		return source(d.source())
	case 4:
		return collect()
	case 5:
		return ask("look", api.MaxFuel)
	}
	fuel := d.next(d.next(400) + 1)
	if d.next(8) == 0 {
		fuel = api.MaxFuel
	}
	return ask(d.oneOf("f", "g", "f", "g", "u"), fuel, num(d.next(4)))
}

// script that is drawn, and its answers.
func (d *drawer) script(n int) ([]api.Act, []api.Answer) {
	var l []api.Act
	var answers []api.Answer
	add := func(a api.Act) {
		l = append(l, a)
		answers = append(answers, d.model.do(a))
	}
	add(source("(record p a b) (record q a) (define x (p 1 (q 2))) (define y (cons (q '(3)) '())) (define (look) (cons x y))" +
		"(define (f n) n) (define (g n) (f (+ n 1)))"))
	for _, name := range []string{"f", "g"} {
		add(source("(define (" + name + " n) " + d.expr(3) + ")"))
	}
	for range n {
		add(d.act())
	}
	return l, answers
}

// between: a script with one act more behind each of its acts.
func between(l []api.Act, more api.Act) []api.Act {
	var some []api.Act
	for _, a := range l {
		some = append(some, a, more)
	}
	return some
}

// evens: every other one of some answers, from the first one on.
func evens(l []api.Answer) []api.Answer {
	var some []api.Answer
	for i := 0; i < len(l); i += 2 {
		some = append(some, l[i])
	}
	return some
}

// differences between answers: "" if there are none.
func differences(l []api.Act, got, want []api.Answer) string {
	for i := range want {
		if i >= len(got) || got[i] != want[i] {
			return fmt.Sprintf("act %d: %v, want %v of %v", i, got[i:min(i+1, len(got))], want[i], l[:i+1])
		}
	}
	return ""
}

// drawn: one script, its answers by the model, and how many words are enough
// for it.
type drawn struct {
	acts  []api.Act
	want  []api.Answer
	words int
}

func drawScript(seed int) drawn {
	d := &drawer{next: newDice(seed), model: newModel()}
	l, want := d.script(4 + d.next(25))
	return drawn{l, want, d.model.most}
}

// agrees: the answers to a script, with one act more behind each of its acts,
// are those of the model.
func (d drawn) agrees(t *testing.T, more api.Act) {
	t.Helper()
	l := between(d.acts, more)
	got, _ := runs(t, api.MaxHeap, l)
	if s := differences(d.acts, evens(got), d.want); s != "" {
		t.Fatalf("with %v between: %s", more, s)
	}
}

// agreesWith so many words, at least up to the first act for which there is no
// room: how many answers were told, and the world behind them.
func (d drawn) agreesWith(t *testing.T, limit int) (int, api.World) {
	t.Helper()
	got, w := runs(t, limit, d.acts)
	n := slices.IndexFunc(got, func(a api.Answer) bool { return a.Code == api.ErrRoom })
	if n < 0 {
		n = len(got)
	}
	if s := differences(d.acts, got[:n], d.want[:n]); s != "" {
		t.Fatalf("with %d words: %s", limit, s)
	}
	return n, w
}

// toldAll: was each of these told some times?
func toldAll(t *testing.T, told map[api.Errno]int, l ...api.Errno) {
	t.Helper()
	for _, e := range l {
		if told[e] < 5 {
			t.Errorf("%v was told but %d times", e, told[e])
		}
	}
}

// Drawn scripts tell what they tell if each update brings up all that lives at
// once, wherever the heap is collected and whenever records are looked at.
func TestP74DrawnScripts(t *testing.T) {
	told := map[api.Errno]int{}
	lazy := 0
	for seed := range 400 {
		d := drawScript(seed)
		for _, a := range d.want {
			told[a.Code]++
		}
		n, w := d.agreesWith(t, api.MaxHeap)
		if n < len(d.want) {
			t.Fatalf("no room for %v", d.acts[n])
		}
		d.agrees(t, collect())
		d.agrees(t, ask("look", 10))
		w, _, _ = vm.Settle(w, null())
		lazy += min(1, heads(w, api.Moved))
	}
	toldAll(t, told, api.OK, api.ErrKind, api.ErrNone, api.ErrDeep, api.ErrCount, api.ErrFuel, api.ErrField, api.ErrRaise)
	if lazy < 100 {
		t.Errorf("in but %d worlds there was something to bring up", lazy)
	}
}

// ErrRoom is not told, if there is room for eight times what the acts make, and
// with less room all is told as it must be, up to the first act for which there
// is none.
func TestP74Room(t *testing.T) {
	short, collected := 0, 0
	for seed := range 400 {
		d := drawScript(seed)
		_, whole := d.agreesWith(t, api.MaxHeap)
		for _, part := range []int{1, 8, 16, 32} {
			limit := min(max(api.MinHeap, 8*d.words/part), api.MaxHeap)
			n, w := d.agreesWith(t, limit)
			switch {
			case n < len(d.want) && limit >= 8*d.words:
				t.Fatalf("seed %d: no room for %v", seed, d.acts[n])
			case n < len(d.want):
				short++
			case len(w.Heap.Words) < len(whole.Heap.Words):
				collected++
			}
		}
	}
	if short < 50 || collected < 50 {
		t.Errorf("%d were short of room, %d collected", short, collected)
	}
}

// What is there behind a drawn script is what the layers ahead make of it.
func TestP71DrawnWorlds(t *testing.T) {
	alike := 0
	for seed := range 300 {
		d := drawScript(seed)
		_, got := runs(t, api.MaxHeap, d.acts)
		w, answers := api.World{Heap: api.Heap{Limit: api.MaxHeap}}, []api.Answer{}
		for _, a := range d.acts {
			var answer api.Answer
			w, answer = byLayers(w, a)
			answers = append(answers, answer)
		}
		// An update may be refused by Graft for what would be gone, had all been
		// brought up: P7.4.
		if differences(d.acts, answers, d.want) != "" {
			continue
		}
		if fmt.Sprint(got) != fmt.Sprint(w) {
			t.Fatalf("%v: %v, want %v", d.acts, got, w)
		}
		alike++
	}
	if alike < 280 {
		t.Errorf("only %d were alike", alike)
	}
}
