package heap_test

import (
	"slices"
	"testing"

	"graftery/api"
	"graftery/heap"
)

// newDice: numbers that look drawn, the same each time.
func newDice(seed int) func(int) int {
	x := uint64(seed)*2862933555777941757 + 3037000493
	return func(most int) int {
		x = x*6364136223846793005 + 1442695040888963407
		return int(x>>33) % most
	}
}

// drawnValue: one, or now and then none.
func drawnValue(next func(int) int) api.Word {
	switch next(40) {
	case 0:
		return api.Word{Kind: next(12) - 1, N: next(5) - 1}
	case 1:
		return ref(next(40) - 1)
	case 2, 3, 4, 5:
		return sym("a")
	}
	return []api.Word{num(next(9)), truth(next(2)), null()}[next(3)]
}

func drawnValues(next func(int) int, n int) []api.Word {
	var l []api.Word
	for range n {
		l = append(l, drawnValue(next))
	}
	return l
}

// drawnThing: a Moved is one to the address 0 at first.
func drawnThing(next func(int) int) []api.Word {
	switch next(6) {
	case 0:
		return box(drawnValue(next))
	case 1:
		return pair(drawnValue(next), drawnValue(next))
	case 2:
		return closure(next(3), drawnValues(next, next(4))...)
	case 3:
		return moved(0, drawnValues(next, next(3))...)
	}
	return record(next(3), next(3), drawnValues(next, next(4))...)
}

// drawnHeap: of most of them the Refs are right.
func drawnHeap(next func(int) int) api.Heap {
	h := api.Heap{Limit: 50 + next(20)}
	var starts []int
	for range next(14) {
		l := drawnThing(next)
		if len(h.Words)+len(l) > h.Limit {
			break
		}
		starts = append(starts, len(h.Words))
		h.Words = append(h.Words, l...)
	}
	for i, w := range h.Words {
		if w.Kind == api.Moved {
			h.Words[i].N = starts[next(len(starts))]
		} else if w.Kind == api.Sym && next(4) > 0 {
			h.Words[i] = ref(starts[next(len(starts))])
		}
	}
	if len(h.Words) > 0 && next(40) == 0 {
		h.Words[next(len(h.Words))] = drawnValue(next)
	}
	return h
}

// model of a heap: things by themselves, in their order, as a plain reading of
// the chapter has them.
type model struct {
	heads, firsts, ends []int
	words               []api.Word
}

// modelOf a heap, if it may be.
func modelOf(h api.Heap) (model, bool) {
	m := model{words: h.Words}
	if h.Limit < 50 || h.Limit > 60000 || len(h.Words) > h.Limit {
		return m, false
	}
	for at := 0; at < len(h.Words); {
		first, end := sides(h.Words, at)
		if end > len(h.Words) {
			return m, false
		}
		m.heads, m.firsts, m.ends = append(m.heads, at), append(m.firsts, first), append(m.ends, end)
		at = end
	}
	for i, at := range m.heads {
		if h.Words[at].Kind == api.Moved && !m.isMovedRight(at) || h.Words[at].Kind != api.Moved && slices.ContainsFunc(h.Words[m.firsts[i]:m.ends[i]], m.isNoValue) {
			return m, false
		}
	}
	return m, true
}

// sides: where the values of a thing begin and end; behind all words, if there
// is none.
func sides(l []api.Word, at int) (first, end int) {
	none := len(l) + 1
	number := func(i, most int) int {
		if i < len(l) && l[i].Kind == api.Int && l[i].S == "" && l[i].N >= 0 && l[i].N <= most {
			return l[i].N
		}
		return none
	}
	n, named := l[at].N, l[at].S != ""
	switch kind := l[at].Kind; {
	case named:
		return none, none
	case kind == api.Pair && n == 0:
		return at + 1, at + 3
	case kind == api.Box && n == 0:
		return at + 1, at + 2
	case kind == api.Closure && n >= 0 && n <= 1999:
		return at + 2, at + 2 + number(at+1, 40)
	case kind == api.Record && n >= 0 && n <= 7 && number(at+1, 19) < none:
		return at + 3, at + 3 + number(at+2, 6)
	case kind == api.Moved && number(at+1, 0) == 0:
		return at + 3, at + 3 + number(at+2, 6)
	}
	return none, none
}

func (m model) isMovedRight(at int) bool {
	to := m.words[at].N
	return slices.Contains(m.heads, to) && (m.words[to].Kind == api.Record || m.words[to].Kind == api.Moved && to > at)
}

func (m model) isNoValue(w api.Word) bool {
	switch w.Kind {
	case api.Int:
		return w.S != ""
	case api.Bool:
		return w.N != 0 && w.N != 1
	case api.Nil:
		return w.N != 0
	case api.Sym:
		return w.S == "" || w.N != 0
	case api.Ref:
		return !slices.Contains(m.heads, w.N)
	}
	return true
}

// find a value, step by step.
func (m model) find(w api.Word) api.Word {
	for w.Kind == api.Ref && m.words[w.N].Kind == api.Moved {
		w.N = m.words[w.N].N
	}
	return w
}

// collect: the order in which addresses are brought first, then all the words.
func (m model) collect(roots []api.Word) ([]api.Word, []api.Word) {
	var order []int
	meet := func(l []api.Word) {
		for _, w := range l {
			if w = m.find(w); w.Kind == api.Ref && !slices.Contains(order, w.N) {
				order = append(order, w.N)
			}
		}
	}
	meet(roots)
	for i := 0; i < len(order); i++ {
		k := slices.Index(m.heads, order[i])
		meet(m.words[m.firsts[k]:m.ends[k]])
	}
	now := func(w api.Word) api.Word {
		if w = m.find(w); w.Kind != api.Ref {
			return w
		}
		at := 0
		for _, x := range order[:slices.Index(order, w.N)] {
			k := slices.Index(m.heads, x)
			at += m.ends[k] - m.heads[k]
		}
		return ref(at)
	}
	var l, r []api.Word
	for _, x := range order {
		k := slices.Index(m.heads, x)
		l = append(l, m.words[x:m.firsts[k]]...)
		for _, w := range m.words[m.firsts[k]:m.ends[k]] {
			l = append(l, now(w))
		}
	}
	for _, w := range roots {
		r = append(r, now(w))
	}
	return l, r
}

// Drawn heaps: all calls answer as a plain reading has it, and what they
// answer may be.
func TestDrawnHeaps(t *testing.T) {
	goods, movings := 0, 0
	for i := range 30000 {
		next := newDice(i)
		h := drawnHeap(next)
		m, ok := modelOf(h)
		may(t, h, ok)
		if !ok || len(m.heads) == 0 {
			continue
		}
		goods++
		a, b := ref(m.heads[next(len(m.heads))]), ref(m.heads[next(len(m.heads))])
		finds(t, h, a, m.find(a))
		l, r := m.collect(words(a, num(1), b))
		collects(t, h, words(a, num(1), b), api.Heap{Words: l, Limit: h.Limit}, r)
		checkParts(t, h, m, a, b)
		if checkMove(t, h, a.N, b.N) == api.ErrForm {
			movings++
		}
		if t.Failed() {
			t.Fatal("heap", i)
		}
	}
	if goods < 3000 || movings < 50 {
		t.Error("only", goods, "heaps may be,", movings, "may not be moved on")
	}
}

func checkParts(t *testing.T, h api.Heap, m model, a, v api.Word) {
	t.Helper()
	k := slices.Index(m.heads, m.find(a).N)
	for i := -1; i <= 7; i++ {
		w, e := heap.Part(h, a, i)
		g, f := heap.Change(h, a, i, v)
		at := m.firsts[k] + i
		if i < 0 || at >= m.ends[k] {
			if e != api.ErrRange || f != api.ErrRange {
				t.Errorf("%d of %v on %v: %v, %v", i, a, h, e, f)
			}
			continue
		}
		if e != api.OK || f != api.OK || w != h.Words[at] || !same(g, api.Heap{Words: with(h.Words, at, v), Limit: h.Limit}) {
			t.Errorf("%d of %v on %v: %v, %v, %v, %v", i, a, h, w, e, g, f)
		}
	}
}

// checkMove: what Move answers.
func checkMove(t *testing.T, h api.Heap, a, b int) api.Errno {
	t.Helper()
	g, e := heap.Move(h, a, b)
	if a == b || h.Words[a].Kind != api.Record || h.Words[b].Kind != api.Record {
		if e != api.ErrKind || !isZero(g) {
			t.Errorf("%d to %d on %v: %v, %v, want ErrKind", a, b, h, g, e)
		}
		return e
	}
	want := api.Heap{Words: slices.Clone(h.Words), Limit: h.Limit}
	copy(want.Words[a:], moved(b, nils(h.Words[a+2].N)...))
	if _, ok := modelOf(want); ok != (e == api.OK) || ok && !same(g, want) || !ok && (e != api.ErrForm || !isZero(g)) {
		t.Errorf("%d to %d on %v: %v, %v", a, b, h, g, e)
	}
	return e
}

// Words that are drawn one by one: nothing panics.
func TestDrawnWords(t *testing.T) {
	for i := range 30000 {
		next := newDice(i)
		h := api.Heap{Limit: 45 + next(20)}
		for range next(12) {
			h.Words = append(h.Words, api.Word{Kind: next(12), N: next(12) - 2, S: []string{"", "", "", "a"}[next(4)]})
		}
		w, v := drawnValue(next), drawnValue(next)
		_, ok := modelOf(h)
		may(t, h, ok)
		answers(h, []api.Word{w, v}, w.N, v.N)
		answers(h, h.Words, v.N, w.N)
		heap.Part(h, w, v.N)
		heap.Change(h, w, v.N, v)
	}
}
