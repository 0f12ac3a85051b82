package read_test

import (
	"strings"
	"testing"

	"graftery/api"
	"graftery/read"
)

func num(n int) api.Datum           { return api.Datum{Kind: api.DInt, N: n} }
func boolean(n int) api.Datum       { return api.Datum{Kind: api.DBool, N: n} }
func sym(s string) api.Datum        { return api.Datum{Kind: api.DSym, S: s} }
func list(l ...api.Datum) api.Datum { return api.Datum{Kind: api.DList, Items: l} }

// nested: a datum in so many lists.
func nested(n int, d api.Datum) api.Datum {
	for range n {
		d = list(d)
	}
	return d
}

// same: are two data one, whether lists without elements are nil or not?
func same(a, b api.Datum) bool {
	return a.Kind == b.Kind && a.N == b.N && a.S == b.S && sameAll(a.Items, b.Items)
}

func sameAll(a, b []api.Datum) bool {
	if len(a) != len(b) {
		return false
	}
	for i := range a {
		if !same(a[i], b[i]) {
			return false
		}
	}
	return true
}

// copyAll: data in memory of their own.
func copyAll(l []api.Datum) []api.Datum {
	var c []api.Datum
	for _, d := range l {
		d.Items = copyAll(d.Items)
		c = append(c, d)
	}
	return c
}

// isNameByRule: P1.1, word by word.
func isNameByRule(s string) bool {
	const digits = "0123456789"
	const others = "abcdefghijklmnopqrstuvwxyz+-*/<>=?!_"
	if len(s) < 1 || len(s) > 16 {
		return false
	}
	for i := 0; i < len(s); i++ {
		if strings.IndexByte(digits+others, s[i]) < 0 {
			return false
		}
	}
	if strings.IndexByte(digits, s[0]) >= 0 {
		return false
	}
	return !(s[0] == '-' && len(s) > 1 && strings.IndexByte(digits, s[1]) >= 0)
}

// namesToTry: each byte alone, at the front, in the middle, at the end, and
// behind what a number may begin with.
func namesToTry() []string {
	l := []string{"", "-", "--", "--1", "-a1", "+1", "-0", "-1", "-9a", "1a", "a-1", "quote", "set!", "null?", "x->y"}
	for c := range 256 {
		b := string([]byte{byte(c)})
		l = append(l, b, b+"a", "a"+b, "a"+b+"a", "-"+b, "+"+b, "--"+b)
	}
	for n := range 40 {
		l = append(l, strings.Repeat("a", n), "+"+strings.Repeat("0", n))
	}
	return append(l, "é", "a\u00e9", "\xff", "Ab", "aB", "a b", "a(b", "a'b", "#t", "#f", "a#", "a.b")
}

func TestP11NamesOfCheck(t *testing.T) {
	for _, s := range namesToTry() {
		want := api.ErrForm
		if isNameByRule(s) {
			want = api.OK
		}
		if got := read.Check(sym(s)); got != want {
			t.Errorf("Check of the name %q: %v, want %v", s, got, want)
		}
	}
}

func TestP11LongestName(t *testing.T) {
	if api.MaxName != 16 {
		t.Fatal("MaxName is", api.MaxName)
	}
	for _, c := range []struct {
		s    string
		want api.Errno
	}{
		{"", api.ErrForm},
		{"a", api.OK},
		{strings.Repeat("z", api.MaxName), api.OK},
		{strings.Repeat("z", api.MaxName+1), api.ErrForm},
	} {
		if got := read.Check(sym(c.s)); got != c.want {
			t.Errorf("%d bytes: %v, want %v", len(c.s), got, c.want)
		}
	}
}

func TestP12Check(t *testing.T) {
	for i, c := range []struct {
		d    api.Datum
		want api.Errno
	}{
		{num(0), api.OK},
		{num(api.MaxInt), api.OK},
		{num(-api.MaxInt), api.OK},
		{num(api.MaxInt + 1), api.ErrRange},
		{num(-api.MaxInt - 1), api.ErrRange},
		{num(1<<63 - 1), api.ErrRange},
		{num(-1 << 63), api.ErrRange},
		{boolean(0), api.OK},
		{boolean(1), api.OK},
		{boolean(2), api.ErrRange},
		{boolean(-1), api.ErrRange},
		{sym("a"), api.OK},
		{sym("A"), api.ErrForm},
		{list(), api.OK},
		{api.Datum{Kind: api.DList, Items: []api.Datum{}}, api.OK},
		{list(num(1), list(sym("b")), boolean(1)), api.OK},
		{api.Datum{}, api.ErrKind},
		{api.Datum{Kind: -1}, api.ErrKind},
		{api.Datum{Kind: 5}, api.ErrKind},
		{api.Datum{Kind: 1<<63 - 1}, api.ErrKind},
		{api.Datum{Kind: -1 << 63}, api.ErrKind},
		{list(num(1), api.Datum{}), api.ErrKind},
		{list(list(num(1), sym(""))), api.ErrForm},
		{list(list(), num(api.MaxInt+1)), api.ErrRange},
	} {
		if got := read.Check(c.d); got != c.want {
			t.Errorf("case %d: %v: %v, want %v", i, c.d, got, c.want)
		}
	}
}

func TestP12WhatAKindHasNot(t *testing.T) {
	items := []api.Datum{{Kind: api.DInt}}
	for i, c := range []struct {
		d    api.Datum
		want api.Errno
	}{
		{api.Datum{Kind: api.DInt, N: 1, S: "a"}, api.ErrForm},
		{api.Datum{Kind: api.DInt, N: 1, Items: items}, api.ErrForm},
		{api.Datum{Kind: api.DInt, N: 1, Items: []api.Datum{}}, api.OK},
		{api.Datum{Kind: api.DBool, N: 1, S: "a"}, api.ErrForm},
		{api.Datum{Kind: api.DBool, N: 1, Items: items}, api.ErrForm},
		{api.Datum{Kind: api.DBool, N: 0, Items: items[:0]}, api.OK},
		{api.Datum{Kind: api.DSym, S: "a", N: 1}, api.ErrForm},
		{api.Datum{Kind: api.DSym, S: "a", N: -1}, api.ErrForm},
		{api.Datum{Kind: api.DSym, S: "a", Items: items}, api.ErrForm},
		{api.Datum{Kind: api.DSym, S: "a", Items: items[:0]}, api.OK},
		{api.Datum{Kind: api.DList, N: 1}, api.ErrForm},
		{api.Datum{Kind: api.DList, S: "a"}, api.ErrForm},
		{api.Datum{Kind: api.DList, S: "a", Items: items}, api.ErrForm},
		{list(api.Datum{Kind: api.DList, N: 1, Items: items}), api.ErrForm},
	} {
		if got := read.Check(c.d); got != c.want {
			t.Errorf("case %d: %v: %v, want %v", i, c.d, got, c.want)
		}
	}
}

// Where several errors apply: the outer one, then the one on the left, then
// the one that is named first.
func TestP12WhichIsTold(t *testing.T) {
	wrong := num(api.MaxInt + 1)
	for i, c := range []struct {
		d    api.Datum
		want api.Errno
	}{
		{api.Datum{Kind: 9, N: 1 << 50, S: "A", Items: []api.Datum{wrong}}, api.ErrKind},
		{api.Datum{Kind: api.DInt, N: 1 << 50, S: "A"}, api.ErrRange},
		{api.Datum{Kind: api.DBool, N: 2, S: "A"}, api.ErrRange},
		{api.Datum{Kind: api.DSym, S: "A", Items: []api.Datum{wrong}}, api.ErrForm},
		{api.Datum{Kind: api.DSym, S: "a", Items: []api.Datum{{}}}, api.ErrForm},
		{api.Datum{Kind: api.DInt, Items: []api.Datum{{}}}, api.ErrForm},
		{api.Datum{Kind: api.DList, N: 1, Items: []api.Datum{{}}}, api.ErrForm},
		{api.Datum{Kind: api.DList, S: "a", Items: []api.Datum{wrong}}, api.ErrForm},
		{list(wrong, api.Datum{}), api.ErrRange},
		{list(api.Datum{}, wrong), api.ErrKind},
		{list(list(sym("")), api.Datum{}), api.ErrForm},
		{list(list(list(wrong)), sym("")), api.ErrRange},
		{list(num(1), nested(50, num(1)), api.Datum{}), api.ErrDeep},
		{list(num(1), api.Datum{}, nested(50, num(1))), api.ErrKind},
		{nested(api.MaxNest, api.Datum{}), api.ErrKind},
		{nested(api.MaxNest, wrong), api.ErrDeep},
		{nested(api.MaxNest, sym("A")), api.ErrDeep},
		{nested(api.MaxNest, api.Datum{Kind: api.DList, N: 1}), api.ErrDeep},
		{nested(api.MaxNest-1, wrong), api.ErrRange},
	} {
		if got := read.Check(c.d); got != c.want {
			t.Errorf("case %d: %v: %v, want %v", i, c.d, got, c.want)
		}
	}
}

func TestP12Deepest(t *testing.T) {
	if api.MaxNest != 40 {
		t.Fatal("MaxNest is", api.MaxNest)
	}
	for _, d := range []api.Datum{num(1), boolean(0), sym("a"), list()} {
		if got := read.Check(nested(api.MaxNest-1, d)); got != api.OK {
			t.Errorf("%v in MaxNest - 1 others: %v", d, got)
		}
		if got := read.Check(nested(api.MaxNest, d)); got != api.ErrDeep {
			t.Errorf("%v in MaxNest others: %v", d, got)
		}
	}
	if got := read.Check(nested(1<<16-1, num(1))); got != api.ErrDeep {
		t.Errorf("in very many others: %v", got)
	}
}

// A list that holds itself is in more than MaxNest others.
func TestP12ListInItself(t *testing.T) {
	items := make([]api.Datum, 3)
	items[0], items[1], items[2] = num(1), list(items...), sym("A")
	if got := read.Check(list(items...)); got != api.ErrDeep {
		t.Error(got)
	}
	if s, got := read.Show(list(items...)); s != "" || got != api.ErrDeep {
		t.Error(s, got)
	}
}

func TestP12ManyItems(t *testing.T) {
	l := make([]api.Datum, 100000)
	for i := range l {
		l[i] = list(num(i))
	}
	if got := read.Check(list(l...)); got != api.OK {
		t.Error(got)
	}
	l[len(l)-1].Items[0].Kind = 0
	if got := read.Check(list(l...)); got != api.ErrKind {
		t.Error(got)
	}
}

func TestP13Show(t *testing.T) {
	for _, c := range []struct {
		d    api.Datum
		want string
	}{
		{num(0), "0"},
		{num(7), "7"},
		{num(-20), "-20"},
		{num(api.MaxInt), "1099511627776"},
		{num(-api.MaxInt), "-1099511627776"},
		{boolean(1), "#t"},
		{boolean(0), "#f"},
		{sym("set!"), "set!"},
		{sym("-"), "-"},
		{sym("quote"), "quote"},
		{list(), "()"},
		{list(num(1)), "(1)"},
		{list(list(), list()), "(() ())"},
		{list(sym("a"), list(num(-1), boolean(0)), sym("b")), "(a (-1 #f) b)"},
		{list(sym("quote"), sym("x")), "(quote x)"},
		{nested(api.MaxNest-1, list()), strings.Repeat("(", 40) + strings.Repeat(")", 40)},
	} {
		if s, e := read.Show(c.d); s != c.want || e != api.OK {
			t.Errorf("%v: %q, %v, want %q", c.d, s, e, c.want)
		}
	}
}

func TestP13RefusesWhatCheckRefuses(t *testing.T) {
	for _, d := range []api.Datum{
		{},
		{Kind: 5},
		num(api.MaxInt + 1),
		boolean(2),
		sym(""),
		sym("A"),
		{Kind: api.DInt, S: "a"},
		{Kind: api.DList, N: 1},
		list(num(1), sym("b"), api.Datum{}),
		list(num(1), boolean(-1), api.Datum{}),
		nested(api.MaxNest, num(1)),
	} {
		want := read.Check(d)
		if s, e := read.Show(d); want == api.OK || e != want || s != "" {
			t.Errorf("%v: %q, %v, want %v", d, s, e, want)
		}
	}
}

// What is handed in is not changed, nor is the spare room of its lists.
func TestArgumentsStay(t *testing.T) {
	room := []api.Datum{num(1), list(sym("a"), num(2)), num(3), num(4)}
	before := copyAll(room)
	d := list(room[:2]...)
	read.Check(d)
	read.Show(d)
	if !sameAll(room, before) {
		t.Error(room)
	}
}
