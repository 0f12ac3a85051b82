package vm

import (
	"iter"
	"slices"

	"graftery/api"
)

// things of words: where they begin, one behind the other.
func things(words []api.Word) iter.Seq[int] {
	return func(yield func(int) bool) {
		for at := 0; at < len(words); {
			if !yield(at) {
				return
			}
			_, at = sides(words, at)
		}
	}
}

// sides of the thing at a place: where its values begin, and where it ends.
func sides(words []api.Word, at int) (first, end int) {
	switch words[at].Kind {
	case api.Pair:
		return at + 1, at + 3
	case api.Box:
		return at + 1, at + 2
	case api.Closure:
		return at + 2, at + 2 + words[at+1].N
	}
	return at + 3, at + 3 + words[at+2].N
}

func null() api.Word { return api.Word{Kind: api.Nil} }

func number(n int) api.Word { return api.Word{Kind: api.Int, N: n} }

func refTo(at int) api.Word { return api.Word{Kind: api.Ref, N: at} }

func truth(b bool) api.Word {
	if b {
		return api.Word{Kind: api.Bool, N: 1}
	}
	return api.Word{Kind: api.Bool}
}

// store: a heap that may be, at work. Package heap looks through all of a heap
// at each call; here, where one call does many steps, what is known of it is
// kept instead.
type store struct {
	words    []api.Word
	limit    int
	moved    map[int]int // by where a Moved begins: where to look on
	stays    map[int]int // by where a Record begins that may not be moved: the last Moved behind it that is one to it
	collects int         // how often it was collected
	spare    []api.Word  // the words of the collection ahead: room for the next one
}

func newStore(h api.Heap) *store {
	s := &store{words: slices.Clone(h.Words), limit: h.Limit, moved: map[int]int{}, stays: map[int]int{}}
	var l []int
	for at := range things(s.words) {
		if s.words[at].Kind == api.Moved {
			l = append(l, at)
		}
	}
	// From the last one on: to where a Moved behind was moved is known by then,
	// so that a long way of them is gone but once.
	for _, at := range slices.Backward(l) {
		to := s.words[at].N
		if to < at {
			s.stays[to] = at
		}
		s.moved[at] = s.find(refTo(to)).N
	}
	return s
}

func (s *store) asHeap() api.Heap { return api.Heap{Words: s.words, Limit: s.limit} }

// find where a value is now.
func (s *store) find(w api.Word) api.Word {
	for s.is(w, api.Moved) {
		w.N = s.moved[w.N]
	}
	return w
}

// is a value one to a thing of a kind?
func (s *store) is(w api.Word, kind int) bool {
	return w.Kind == api.Ref && s.words[w.N].Kind == kind
}

// values of a thing: who changes them changes the thing.
func (s *store) values(at int) []api.Word {
	first, end := sides(s.words, at)
	return s.words[first:end]
}

func (s *store) hasRoom(n int) bool { return n <= s.limit-len(s.words) }

// add a thing for which there is room.
func (s *store) add(front, values []api.Word) api.Word {
	at := len(s.words)
	s.words = append(append(s.words, front...), values...)
	return refTo(at)
}

// move a Record to one behind it.
func (s *store) move(at, to int) api.Errno {
	if _, ok := s.stays[at]; ok {
		return api.ErrForm
	}
	for i := range s.values(at) {
		s.values(at)[i] = null()
	}
	s.words[at] = api.Word{Kind: api.Moved, N: to}
	s.words[at+1] = number(0)
	s.moved[at] = to
	return api.OK
}

// brought is the kind of a head whose thing was brought: N is where it begins
// now. No word has it but while the heap is collected.
const brought = -1

// collect: only what the roots reach stays, in the order in which it is
// reached; the roots are then as they must be.
func (s *store) collect(roots ...[]api.Word) {
	b := bringer{from: s, to: slices.Grow(s.spare[:0], len(s.words))}
	for _, l := range roots {
		b.bringAll(l)
	}
	for at := 0; at < len(b.to); {
		first, end := sides(b.to, at)
		b.bringAll(b.to[first:end])
		at = end
	}
	s.words, s.spare = b.to, s.words
	s.collects++
	clear(s.moved)
	clear(s.stays)
}

// bringer brings what is reached of a store to other words; there is room for
// all of them.
type bringer struct {
	from *store
	to   []api.Word
}

func (b *bringer) bringAll(l []api.Word) {
	for i, w := range l {
		l[i] = b.bring(w)
	}
}

// bring a value: what it is then.
func (b *bringer) bring(w api.Word) api.Word {
	w = b.from.find(w)
	if w.Kind != api.Ref {
		return w
	}
	words := b.from.words
	if words[w.N].Kind != brought {
		at := len(b.to)
		_, end := sides(words, w.N)
		b.to = append(b.to, words[w.N:end]...)
		words[w.N] = api.Word{Kind: brought, N: at}
	}
	return refTo(words[w.N].N)
}
