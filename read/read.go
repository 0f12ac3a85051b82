// Package read: data as text.
package read

import (
	"strconv"
	"strings"

	"graftery/api"
)

// Check a datum.
func Check(d api.Datum) api.Errno { return checkWithin(d, 0) }

// Show a datum as text.
func Show(d api.Datum) (string, api.Errno) {
	if e := Check(d); e != api.OK {
		return "", e
	}
	var b strings.Builder
	write(&b, d)
	return b.String(), api.OK
}

// Read the data of a text; the place of the byte where one that is wrong begins.
func Read(s string) ([]api.Datum, int, api.Errno) {
	if len(s) > api.MaxSource {
		return nil, 0, api.ErrSize
	}
	r := reader{text: s}
	l, e := r.all()
	if e != api.OK {
		return nil, r.place, e
	}
	return l, 0, api.OK
}

// checkWithin checks a datum that is in so many others. The first thing that
// is wrong ends it, so a list that holds itself ends at MaxNest.
func checkWithin(d api.Datum, others int) api.Errno {
	if e := checkAlone(d, others); e != api.OK {
		return e
	}
	for _, x := range d.Items {
		if e := checkWithin(x, others+1); e != api.OK {
			return e
		}
	}
	return api.OK
}

// checkAlone checks a datum without what is in it.
func checkAlone(d api.Datum, others int) api.Errno {
	switch {
	case d.Kind < api.DInt || d.Kind > api.DList:
		return api.ErrKind
	case others >= api.MaxNest:
		return api.ErrDeep
	case d.Kind == api.DInt && !fits(d.N):
		return api.ErrRange
	case d.Kind == api.DBool && d.N != 0 && d.N != 1:
		return api.ErrRange
	case d.Kind == api.DSym && !isName(d.S):
		return api.ErrForm
	case hasMore(d):
		return api.ErrForm
	}
	return api.OK
}

// fits: may a DInt have this number?
func fits(n int) bool { return -api.MaxInt <= n && n <= api.MaxInt }

// hasMore: is something there that the datum's kind has not?
func hasMore(d api.Datum) bool {
	number := d.Kind == api.DInt || d.Kind == api.DBool
	return d.N != 0 && !number ||
		d.S != "" && d.Kind != api.DSym ||
		len(d.Items) > 0 && d.Kind != api.DList
}

// write the text of a datum that may be.
func write(b *strings.Builder, d api.Datum) {
	switch d.Kind {
	case api.DInt:
		b.WriteString(strconv.Itoa(d.N))
	case api.DBool:
		b.WriteString(boolText(d.N))
	case api.DSym:
		b.WriteString(d.S)
	case api.DList:
		writeList(b, d.Items)
	}
}

func boolText(n int) string {
	if n == 1 {
		return wordTrue
	}
	return wordFalse
}

func writeList(b *strings.Builder, l []api.Datum) {
	b.WriteByte('(')
	for i, x := range l {
		if i > 0 {
			b.WriteByte(' ')
		}
		write(b, x)
	}
	b.WriteByte(')')
}
