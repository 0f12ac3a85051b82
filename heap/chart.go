package heap

import (
	"slices"

	"graftery/api"
)

// chart of a heap that may be. Words alone do not tell where things begin, so
// each call draws a chart of them first.
type chart struct {
	words  []api.Word
	things []thing     // in their order
	places map[int]int // by where a thing begins: its place among these
	moved  map[int]int // by where a Moved begins: where the Record begins that it is now
}

// newChart of a heap; ErrState, if that may not be.
func newChart(h api.Heap) (chart, api.Errno) {
	if h.Limit < api.MinHeap || h.Limit > api.MaxHeap || len(h.Words) > h.Limit {
		return chart{}, api.ErrState
	}
	c := chart{words: h.Words, places: make(map[int]int, len(h.Words)/3), moved: map[int]int{}}
	if !c.addThings() || !c.addMoved() || !c.hasValues() {
		return chart{}, api.ErrState
	}
	return c, api.OK
}

// chartFor values of a heap; ErrKind, if one of them is none.
func chartFor(h api.Heap, l ...api.Word) (chart, api.Errno) {
	c, e := newChart(h)
	if e != api.OK {
		return chart{}, e
	}
	if !c.areValues(l) {
		return chart{}, api.ErrKind
	}
	return c, api.OK
}

// addThings: are the words things, to the last one?
func (c *chart) addThings() bool {
	for at := 0; at < len(c.words); {
		t, ok := thingAt(c.words, at)
		if !ok {
			return false
		}
		c.add(t)
		at = t.end
	}
	return true
}

func (c *chart) add(t thing) {
	c.places[t.head] = len(c.things)
	c.things = append(c.things, t)
}

// addMoved: is each Moved one to a Record, or to a Moved behind it? It goes
// from the last one to the first: what a Moved was moved to is known by then,
// and a long way of them is gone but once.
func (c *chart) addMoved() bool {
	for _, t := range slices.Backward(c.things) {
		if c.words[t.head].Kind != api.Moved {
			continue
		}
		to := c.words[t.head].N
		if end, ok := c.moved[to]; ok {
			to = end
		}
		if !c.isRecord(to) {
			return false
		}
		c.moved[t.head] = to
	}
	return true
}

// hasValues: are all values of things but a Moved values?
func (c *chart) hasValues() bool {
	for _, t := range c.things {
		if c.words[t.head].Kind != api.Moved && !c.areValues(c.words[t.first:t.end]) {
			return false
		}
	}
	return true
}

func (c *chart) areValues(l []api.Word) bool {
	for _, w := range l {
		if !c.isValue(w) {
			return false
		}
	}
	return true
}

func (c *chart) isValue(w api.Word) bool {
	switch w.Kind {
	case api.Int:
		return -api.MaxInt <= w.N && w.N <= api.MaxInt && w.S == ""
	case api.Bool:
		return isPlain(w, 2)
	case api.Nil:
		return isPlain(w, 1)
	case api.Sym:
		return w.N == 0 && 1 <= len(w.S) && len(w.S) <= api.MaxName
	case api.Ref:
		_, ok := c.places[w.N]
		return ok && w.S == ""
	}
	return false
}

// thing that begins at an address; one does.
func (c *chart) thing(at int) thing { return c.things[c.places[at]] }

func (c *chart) isRecord(at int) bool {
	_, ok := c.places[at]
	return ok && c.words[at].Kind == api.Record
}

// find where a value is now.
func (c *chart) find(w api.Word) api.Word {
	if to, ok := c.moved[w.N]; ok && w.Kind == api.Ref {
		w.N = to
	}
	return w
}

// part: the address of the how many-th value of what a value is.
func (c *chart) part(w api.Word, i int) (int, api.Errno) {
	w = c.find(w)
	if w.Kind != api.Ref {
		return 0, api.ErrKind
	}
	t := c.thing(w.N)
	if i < 0 || i >= t.end-t.first {
		return 0, api.ErrRange
	}
	return t.first + i, api.OK
}

// mayGrow: may the words be those of the chart, and one thing more that is no
// Moved? It may have Refs to itself, so it is on the chart ahead of its values.
func (c *chart) mayGrow(l []api.Word) bool {
	t, ok := thingAt(l, len(c.words))
	if !ok || t.end < len(l) || l[t.head].Kind == api.Moved {
		return false
	}
	c.words = l
	c.add(t)
	return c.areValues(l[t.first:t.end])
}
