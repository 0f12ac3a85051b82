package read

import (
	"strings"

	"graftery/api"
)

// reader of a text. When something is wrong, place stays where that begins.
type reader struct {
	text  string
	place int // of the byte that is next
	began int // how many data began
}

// all data of the text.
func (r *reader) all() ([]api.Datum, api.Errno) {
	var l []api.Datum
	for r.skip(); !r.ended(); r.skip() {
		d, e := r.datum(0)
		if e != api.OK {
			return nil, e
		}
		l = append(l, d)
	}
	return l, api.OK
}

// datum that must stand next, in so many others.
func (r *reader) datum(others int) (api.Datum, api.Errno) {
	r.skip()
	switch {
	case r.ended():
		return api.Datum{}, api.ErrShort
	case r.began >= api.MaxItems:
		return api.Datum{}, api.ErrSize
	case others >= api.MaxNest:
		return api.Datum{}, api.ErrDeep
	}
	r.began++
	switch r.text[r.place] {
	case ')':
		return api.Datum{}, api.ErrForm
	case '(':
		return r.list(others)
	case '\'':
		return r.quoted(others)
	}
	return r.word()
}

// list whose `(` is next.
func (r *reader) list(others int) (api.Datum, api.Errno) {
	r.place++
	var l []api.Datum
	for r.skip(); r.ended() || r.text[r.place] != ')'; r.skip() {
		d, e := r.datum(others + 1)
		if e != api.OK {
			return api.Datum{}, e
		}
		l = append(l, d)
	}
	r.place++
	return api.Datum{Kind: api.DList, Items: l}, api.OK
}

// quoted datum whose `'` is next.
func (r *reader) quoted(others int) (api.Datum, api.Errno) {
	r.place++
	d, e := r.datum(others + 1)
	if e != api.OK {
		return api.Datum{}, e
	}
	quote := api.Datum{Kind: api.DSym, S: wordQuote}
	return api.Datum{Kind: api.DList, Items: []api.Datum{quote, d}}, api.OK
}

// word that is next.
func (r *reader) word() (api.Datum, api.Errno) {
	end := r.place
	for end < len(r.text) && !endsWord(r.text[end]) {
		end++
	}
	d, e := word(r.text[r.place:end])
	if e == api.OK {
		r.place = end
	}
	return d, e
}

// skip blanks and comments.
func (r *reader) skip() {
	for !r.ended() {
		switch c := r.text[r.place]; {
		case isBlank(c):
			r.place++
		case c == ';':
			r.skipLine()
		default:
			return
		}
	}
}

// skipLine: up to the end of the line.
func (r *reader) skipLine() {
	n := strings.IndexByte(r.text[r.place:], '\n')
	if n < 0 {
		n = len(r.text) - r.place
	}
	r.place += n
}

func (r *reader) ended() bool { return r.place >= len(r.text) }

func isBlank(c byte) bool { return c == ' ' || c == '\n' || c == '\t' }

// endsWord: does a word end ahead of this byte?
func endsWord(c byte) bool {
	return isBlank(c) || strings.IndexByte("();'", c) >= 0
}
