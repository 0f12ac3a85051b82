package serve

import (
	"strconv"
	"strings"

	"graftery/api"
	"graftery/heap"
	"graftery/vm"
)

// shower writes a value as text. It walks on a heap that was collected from
// that value: nothing there was moved.
type shower struct {
	recs  []api.Rec
	words []api.Word
	text  strings.Builder
	old   bool // a Record was met that has not the version that is now: the text is for nothing
}

// textOf a value of a world that may be, or, with old, none: a Record was met
// that must be brought up first.
func textOf(w api.World, x api.Word) (text string, old bool, e api.Errno) {
	h, roots, e := heap.Collect(w.Heap, []api.Word{x})
	if e != api.OK {
		return "", false, e
	}
	s := shower{recs: w.Recs, words: h.Words}
	s.value(roots[0], 0)
	if s.old {
		return "", true, api.OK
	}
	return s.text.String(), false, api.OK
}

// showSettled: a value of a world that is settled first.
func showSettled(w api.World, x api.Word) (api.World, string, api.Errno) {
	w, x, e := vm.Settle(w, x)
	if e != api.OK {
		return api.World{}, "", e
	}
	text, _, e := textOf(w, x)
	if e != api.OK {
		return api.World{}, "", e
	}
	return w, text, api.OK
}

func (s *shower) write(text string) { s.text.WriteString(text) }

// value that is in so many things that are shown.
func (s *shower) value(w api.Word, others int) {
	switch w.Kind {
	case api.Int:
		s.write(strconv.Itoa(w.N))
	case api.Bool:
		s.write([]string{"#f", "#t"}[w.N])
	case api.Nil:
		s.write("()")
	case api.Sym:
		s.write(w.S)
	case api.Ref:
		s.thing(w.N, others)
	}
}

// thing that begins at an address.
func (s *shower) thing(at, others int) {
	switch {
	case s.old:
	case others >= api.MaxShow:
		s.write("..")
	case s.words[at].Kind == api.Closure:
		s.write("#fn")
	case s.words[at].Kind == api.Box:
		s.write("#box")
	case s.words[at].Kind == api.Record:
		s.record(at, others+1)
	case s.words[at].Kind == api.Pair:
		s.list(at, others+1)
	}
}

// record whose values are in so many things.
func (s *shower) record(at, others int) {
	r := s.recs[s.words[at].N]
	version, values := s.words[at+1].N, s.words[at+2].N
	if version < len(r.Vers)-1 {
		s.old = true
		return
	}
	s.write("#[" + r.Name)
	for _, w := range s.words[at+3 : at+3+values] {
		s.write(" ")
		s.value(w, others)
	}
	s.write("]")
}

// list that begins with a Pair; its values are in so many things.
func (s *shower) list(at, others int) {
	s.write("(")
	s.value(s.words[at+1], others)
	rest := s.words[at+2]
	for n := 1; s.isPair(rest); n++ {
		if n == api.MaxList {
			s.write(" ..)")
			return
		}
		s.write(" ")
		s.value(s.words[rest.N+1], others)
		rest = s.words[rest.N+2]
	}
	if rest.Kind != api.Nil {
		s.write(" . ")
		s.value(rest, others)
	}
	s.write(")")
}

func (s *shower) isPair(w api.Word) bool {
	return w.Kind == api.Ref && s.words[w.N].Kind == api.Pair
}
