package heap

import "graftery/api"

// plan of the things of a kind: what their heads, and the words between these
// and the values, may be.
type plan struct {
	heads    int  // N of a head is below this
	versions int  // that of the Int behind it, too; 0: there is no such Int
	values   int  // how many there are
	counted  bool // an Int tells how many: at most so many
}

// planOf a kind; of one that no head has nothing can be made, since no head is
// below 0.
func planOf(kind int) plan {
	switch kind {
	case api.Pair:
		return plan{heads: 1, values: 2}
	case api.Box:
		return plan{heads: 1, values: 1}
	case api.Closure:
		return plan{heads: api.MaxFuncs, values: api.MaxLocals, counted: true}
	case api.Record:
		return plan{heads: api.MaxRecs, versions: api.MaxVers, values: api.MaxFields, counted: true}
	case api.Moved:
		return plan{heads: api.MaxHeap, versions: 1, values: api.MaxFields, counted: true}
	}
	return plan{}
}

// thing on a heap: where it begins, where its values do, and where it ends:
// the place behind its last word.
type thing struct{ head, first, end int }

// thingAt a place of some words, whatever its values are; is there one?
func thingAt(l []api.Word, at int) (thing, bool) {
	p := planOf(l[at].Kind)
	if !isPlain(l[at], p.heads) {
		return thing{}, false
	}
	t := thing{head: at, first: at + 1}
	if p.versions > 0 {
		if !hasInt(l, t.first, p.versions) {
			return thing{}, false
		}
		t.first++
	}
	values := p.values
	if p.counted {
		if !hasInt(l, t.first, p.values+1) {
			return thing{}, false
		}
		values = l[t.first].N
		t.first++
	}
	t.end = t.first + values
	if t.end > len(l) {
		return thing{}, false
	}
	return t, true
}

// hasInt: does an Int from 0 to below some number stand at a place?
func hasInt(l []api.Word, at, below int) bool {
	return at < len(l) && l[at].Kind == api.Int && isPlain(l[at], below)
}

// isPlain: is N from 0 to below some number, and S empty?
func isPlain(w api.Word, below int) bool { return 0 <= w.N && w.N < below && w.S == "" }

// leave a thing as one that was moved to an address.
func leave(l []api.Word, t thing, to int) {
	l[t.head] = api.Word{Kind: api.Moved, N: to}
	l[t.head+1] = api.Word{Kind: api.Int}
	for i := t.first; i < t.end; i++ {
		l[i] = api.Word{Kind: api.Nil}
	}
}
