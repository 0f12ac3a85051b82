package read

import (
	"strconv"
	"strings"

	"graftery/api"
)

const (
	wordTrue  = "#t"
	wordFalse = "#f"
	wordQuote = "quote"
	nameSigns = "+-*/<>=?!_"
)

// word: the datum that a word is. What it holds is no piece of the text, so
// that the text is not kept with it.
func word(w string) (api.Datum, api.Errno) {
	switch {
	case w == wordTrue:
		return api.Datum{Kind: api.DBool, N: 1}, api.OK
	case w == wordFalse:
		return api.Datum{Kind: api.DBool}, api.OK
	case isName(w):
		return api.Datum{Kind: api.DSym, S: strings.Clone(w)}, api.OK
	}
	return number(w)
}

// number: the DInt that a word is. Only what Show writes is one: no further
// zeros ahead, no -0.
func number(w string) (api.Datum, api.Errno) {
	n, err := strconv.Atoi(w)
	if err != nil || strconv.Itoa(n) != w {
		return api.Datum{}, api.ErrForm
	}
	if !fits(n) {
		return api.Datum{}, api.ErrRange
	}
	return api.Datum{Kind: api.DInt, N: n}, api.OK
}

// isName: is a text a name?
func isName(s string) bool {
	if len(s) < 1 || len(s) > api.MaxName || beginsAsNumber(s) {
		return false
	}
	for i := range len(s) {
		if !isNameByte(s[i]) {
			return false
		}
	}
	return true
}

// beginsAsNumber: does it begin with a digit, or with a digit behind a minus?
func beginsAsNumber(s string) bool {
	s = strings.TrimPrefix(s, "-")
	return s != "" && isDigit(s[0])
}

func isNameByte(c byte) bool {
	return 'a' <= c && c <= 'z' || isDigit(c) || strings.IndexByte(nameSigns, c) >= 0
}

func isDigit(c byte) bool { return '0' <= c && c <= '9' }
