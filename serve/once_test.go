package serve_test

import (
	"reflect"
	"slices"
	"strconv"
	"strings"
	"testing"

	"graftery/api"
)

// What only a field has that an update dropped is gone by then, whether
// somebody looked at the record or not.
func TestP74Dropped(t *testing.T) {
	ahead := []string{"(record q a) (record p a b) (define x (p 1 (q 11))) (define y '()) (define (f) x) (define (g) (p-a x))", "(record p a) (upgrade p (was a))"}
	bad := "(record q a) (upgrade q (car (was a)))"
	for _, look := range []string{"collect", "f", "g"} {
		tells(t, 500, acts(t, append(slices.Clone(ahead), look, bad, "f")...), "", "", map[string]string{"f": "#[p 1]", "g": "1"}[look], "", "#[p 1]")
	}
	last(t, 500, "", append(ahead, bad)...)
	last(t, 500, "", append(ahead, "(record q a b) (upgrade q (was a) 1)", "(record q a) (upgrade q (car (was b)))")...)
	last(t, 500, "", append(ahead, "(record p b) (upgrade p (cons (was a) 2))", bad)...)
	// But not what something else has, or if it is dropped in the same update.
	last(t, 500, refused(api.ErrKind), append(ahead, "(define z (q 5))", bad)...)
	last(t, 500, refused(api.ErrKind), ahead[0], "(record p a) (upgrade p (was a)) "+bad)
	last(t, 500, refused(api.ErrKind), ahead[0], bad)
}

// Of what is refused what still lives tells.
func TestP74DroppedErrors(t *testing.T) {
	ahead := []string{"(record q a) (record p a b) (define x (p 1 (q 11))) (define y (q 12))", "(record p a) (upgrade p (was a))"}
	last(t, 500, refused(api.ErrRaise), append(ahead, "(record q a) (upgrade q (if (= (was a) 11) (car 1) (error 1)))")...)
	last(t, 500, refused(api.ErrKind), append(ahead, "(record q a) (upgrade q (if (= (was a) 12) (car 1) (error 1)))")...)
	last(t, 500, "", append(ahead, "(record q a) (upgrade q (if (= (was a) 11) (car 1) 2))")...)
	last(t, 500, refused(api.ErrRaise), append(ahead, "(record q a) (upgrade q (if (= (was a) 11) (car 1) 2)) (define z (error 1))")...)
	last(t, 500, refused(api.ErrNone), append(ahead, "(record q a) (upgrade q (if (= (was a) 11) (car 1) 2)) (record p c)")...)
	// What was brought up to find that out is forgotten.
	_, one := runs(t, 500, acts(t, ahead...))
	_, two := runs(t, 500, acts(t, append(ahead, "(record q a) (upgrade q (error 1))")...))
	if !reflect.DeepEqual(one, two) {
		t.Errorf("%v, want %v", two, one)
	}
	// There is room to bring up each one, but not all: what was refused is told.
	crowded := []string{
		"(record q a) (record p a b) (define x (p 1 (q 11))) (define y (cons (p 2 3) (p 4 5)))",
		"(record p a c d e g h) (upgrade p (was a) 1 2 3 4 5)",
		"(define z '(1 2 3 4 5 6))", "(record q a) (upgrade q (car (was a)))",
	}
	last(t, api.MinHeap, refused(api.ErrKind), crowded...)
	last(t, api.MinHeap+10, "", crowded...)
}

// Nor does it take room: the acts make 13 words, the list would be 96.
func TestP74DroppedRoom(t *testing.T) {
	ahead := []string{"(record q a) (record p a b) (define x (p 1 (q 11)))", "(record p a) (upgrade p (was a))"}
	big := "(record q a) (upgrade q '(" + strings.Repeat("1 ", 32) + "))"
	last(t, 8*13, "", append(ahead, big)...)
	last(t, 8*13, refused(api.ErrRoom), ahead[0], big)
	last(t, 8*13, refused(api.ErrRoom), append(ahead, "(define y (q 1))", big)...)
}

// An upgrade looks at what the old fields had when it came.
func TestP74Once(t *testing.T) {
	tells(t, 500, acts(t,
		"(record p a b) (define x (p 1 2)) (define y (p 3 x)) (define (f) (cons x y)) (define (g n) (p-a! x n)) (define (same) (eq? x (cdr (p-b y))))",
		"(record p b a) (upgrade p (cons (was a) (was b)) (was a))", "g 7", "f", "same",
		"(record p a b) (upgrade p (+ (was a) 1) (was b))", "g (8)", "same", "collect", "f",
		"(record p a) (upgrade p (car (was a)))", "f", "(record p a) (upgrade p (was b))", "f", "same",
	), "", "", "7", "(#[p (1 . 2) 7] . #[p (3 . #[p (1 . 2) 7]) 3])", "#t",
		"", "(8)", "#t", "", "(#[p (8) (1 . 2)] . #[p 4 (3 . #[p (8) (1 . 2)])])",
		refused(api.ErrKind), "(#[p (8) (1 . 2)] . #[p 4 (3 . #[p (8) (1 . 2)])])", "", "(#[p (1 . 2)] . #[p (3 . #[p (1 . 2)])])", refused(api.ErrField))
}

// versions of a record with one field, each the one ahead and one more.
func versions(n int) []string {
	return slices.Repeat([]string{"(record p a) (upgrade p (+ (was a) 1))"}, n)
}

// As many versions as may be, at once or one by one.
func TestP74Versions(t *testing.T) {
	ahead := "(record p a) (define x (cons (p 1) (p 2))) (define (f) x) (define (g) (p-a (car x)))"
	most := api.MaxVers - 1
	last(t, 200, "(#[p 20] . #[p 21])", slices.Concat([]string{ahead}, versions(most), []string{"f"})...)
	last(t, 200, "20", slices.Concat([]string{ahead}, versions(most), []string{"g"})...)
	last(t, 200, "(#[p 20] . #[p 21])", slices.Concat([]string{ahead}, versions(9), []string{"g"}, versions(3), []string{"f"}, versions(most-12), []string{"g", "collect", "f"})...)
	last(t, 200, refused(api.ErrSize), slices.Concat([]string{ahead}, versions(most+1))...)
}

// definitions of so many functions.
func definitions(n int) string {
	var l []string
	for i := range n {
		l = append(l, "(define (f"+strconv.Itoa(i)+") 1)")
	}
	return strings.Join(l, " ")
}

// For each thing that is made, of each kind, there is room enough, if there is
// room for eight times as much.
func TestP74Counted(t *testing.T) {
	const n = 90
	// Each of the times takes a pair, and the names of two calls, but for what
	// one makes.
	times := "(define x 1) (define (times n) (if (= n 0) '() (cons (one n) (times (- n 1))))) (define (f) (set! x (times 90)))"
	six := "(define (one n) (let ((a n) (b n) (c n) (d n) (e n) (g n)) (lambda () (begin (set! a 1) (set! b 1) (set! c 1) (set! d 1) (set! e 1) (set! g 1) (set! n 1)))))"
	record := "(record p a b c d e g) (define (one n) (p n n n n n n))"
	upgrades := slices.Repeat([]string{"(record p a b c d e g) (upgrade p (was b) (was a) (was c) (was d) (was g) (was e))"}, 5)
	for _, c := range []struct {
		words int
		lines []string
	}{
		{3 * n, []string{"(define x '(" + strings.Repeat("1 ", n) + "))"}},
		{6 * n, []string{"(define x '(" + strings.Repeat("(1) ", n) + "))"}},
		{2 + 2 + 3*n, []string{"(define x '()) (define (f l) (set! x l))", "f (" + strings.Repeat("1 ", n) + ")"}},
		{2 * api.MaxGlobs, []string{definitions(api.MaxGlobs)}},
		{6 + (7+3)*n, []string{times + "(define (one n) (cons n n))", "f"}},
		{6 + (7+2+1)*n, []string{times + "(define (one n) (lambda () n))", "f"}},
		{6 + (7+12+2+7)*n, []string{times + six, "f"}},
		{6 + (7+9)*n, []string{times + record, "f"}},
		{8 + (7+9+5*9)*n, slices.Concat([]string{times + record, "f"}, upgrades, []string{"(define (look) x)", "look"})},
	} {
		answers, _ := runs(t, min(8*c.words, api.MaxHeap), acts(t, c.lines...))
		if i := slices.IndexFunc(answers, func(a api.Answer) bool { return a.Code != api.OK }); i >= 0 {
			t.Errorf("%d words: %s: %v", c.words, short(c.lines), answers[i])
		}
	}
}
