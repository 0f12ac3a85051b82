package heap

import "graftery/api"

// bringer brings what is reached on one heap to a new one.
type bringer struct {
	from  chart
	words []api.Word  // all that was brought
	now   map[int]int // by where a thing began: where it begins now
}

// bring a value: what it is on the new heap.
func (b *bringer) bring(w api.Word) api.Word {
	w = b.from.find(w)
	if w.Kind != api.Ref {
		return w
	}
	at, ok := b.now[w.N]
	if !ok {
		at = len(b.words)
		b.now[w.N] = at
		t := b.from.thing(w.N)
		b.words = append(b.words, b.from.words[t.head:t.end]...)
	}
	w.N = at
	return w
}

func (b *bringer) bringRoots(l []api.Word) []api.Word {
	roots := make([]api.Word, 0, len(l))
	for _, w := range l {
		roots = append(roots, b.bring(w))
	}
	return roots
}

// bringParts: the values of all that was brought, and of what comes with them.
func (b *bringer) bringParts() {
	for at := 0; at < len(b.words); {
		t, _ := thingAt(b.words, at)
		for i := t.first; i < t.end; i++ {
			w := b.bring(b.words[i]) // b.words may be another list only behind this
			b.words[i] = w
		}
		at = t.end
	}
}
