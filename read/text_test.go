package read_test

import (
	"strings"
	"testing"

	"graftery/api"
	"graftery/read"
)

// reads: the text has just these data.
func reads(t *testing.T, s string, want ...api.Datum) {
	t.Helper()
	l, place, e := read.Read(s)
	if e != api.OK || place != 0 || !sameAll(l, want) {
		t.Errorf("%q: %v, %d, %v, want %v", s, l, place, e, want)
	}
}

// refuses: the text is refused, with this place, and no data.
func refuses(t *testing.T, s string, place int, want api.Errno) {
	t.Helper()
	l, p, e := read.Read(s)
	if e != want || p != place || len(l) != 0 {
		t.Errorf("%q: %v, %d, %v, want place %d, %v", s, l, p, e, place, want)
	}
}

func quoted(d api.Datum) api.Datum { return list(sym("quote"), d) }

func TestP11NamesOfRead(t *testing.T) {
	for _, s := range namesToTry() {
		if isNameByRule(s) {
			reads(t, s, sym(s))
		} else if l, _, _ := read.Read(s); len(l) == 1 && l[0].Kind == api.DSym && l[0].S == s {
			t.Errorf("%q is read as a name", s)
		}
	}
	reads(t, strings.Repeat("z", api.MaxName), sym(strings.Repeat("z", api.MaxName)))
	refuses(t, strings.Repeat("z", api.MaxName+1), 0, api.ErrForm)
}

func TestP14Data(t *testing.T) {
	reads(t, "")
	reads(t, "a", sym("a"))
	reads(t, "#t #f", boolean(1), boolean(0))
	reads(t, "1 -20 0", num(1), num(-20), num(0))
	reads(t, "+ - +1 --1 -a", sym("+"), sym("-"), sym("+1"), sym("--1"), sym("-a"))
	reads(t, "()", list())
	reads(t, "(())()", list(list()), list())
	reads(t, "(a 1 (b #f))", list(sym("a"), num(1), list(sym("b"), boolean(0))))
	reads(t, "(a '-1) #t ; c", list(sym("a"), quoted(num(-1))), boolean(1))
}

func TestP14Quotes(t *testing.T) {
	reads(t, "'a", quoted(sym("a")))
	reads(t, "(quote a)", quoted(sym("a")))
	reads(t, "''a", quoted(quoted(sym("a"))))
	reads(t, "'()", quoted(list()))
	reads(t, "'('a b)c", quoted(list(quoted(sym("a")), sym("b"))), sym("c"))
	reads(t, "a'b'c", sym("a"), quoted(sym("b")), quoted(sym("c")))
	reads(t, "' a '\n(b) ';c\n d", quoted(sym("a")), quoted(list(sym("b"))), quoted(sym("d")))
}

func TestP14BlanksAndComments(t *testing.T) {
	reads(t, " \n\t")
	reads(t, ";")
	reads(t, "; a ( ' )")
	reads(t, ";\n;\n")
	reads(t, "\t a\n\n b ", sym("a"), sym("b"))
	reads(t, " ( a\t( \n) ) ", list(sym("a"), list()))
	reads(t, "a(b)c", sym("a"), list(sym("b")), sym("c"))
	reads(t, "a;b\nc", sym("a"), sym("c"))
	reads(t, "(a;)\n;;\n)b", list(sym("a")), sym("b"))
	reads(t, "1;\t;\n2", num(1), num(2))
	for c := range 256 {
		s := "a" + string([]byte{byte(c)}) + "b"
		switch c {
		case ' ', '\n', '\t':
			reads(t, s, sym("a"), sym("b"))
		case '(':
			refuses(t, s, 3, api.ErrShort)
		case ')':
			refuses(t, s, 1, api.ErrForm)
		case ';':
			reads(t, s, sym("a"))
		case '\'':
			reads(t, s, sym("a"), quoted(sym("b")))
		default:
			if isNameByRule(s) {
				reads(t, s, sym(s))
			} else {
				refuses(t, s, 0, api.ErrForm)
			}
		}
	}
}

func TestP14Short(t *testing.T) {
	refuses(t, "(", 1, api.ErrShort)
	refuses(t, "(a", 2, api.ErrShort)
	refuses(t, "(a (b)", 6, api.ErrShort)
	refuses(t, "(a ; )", 6, api.ErrShort)
	refuses(t, "(a \n\t ", 6, api.ErrShort)
	refuses(t, "'", 1, api.ErrShort)
	refuses(t, "a '  ", 5, api.ErrShort)
	refuses(t, "(''", 3, api.ErrShort)
	refuses(t, "';a", 3, api.ErrShort)
}

func TestP14Form(t *testing.T) {
	refuses(t, ")", 0, api.ErrForm)
	refuses(t, "a )", 2, api.ErrForm)
	refuses(t, "(a))", 3, api.ErrForm)
	refuses(t, "(')", 2, api.ErrForm)
	refuses(t, "' )", 2, api.ErrForm)
	refuses(t, " ;x\n )", 5, api.ErrForm)
	for _, w := range []string{
		"#", "#a", "#tt", "#t#f", "#T", "#true", "1a", "-1a", "-0", "00", "01", "-01", "1-", "1.0", "1_0", "0x1", "1e3",
		"A", "aB", "a#", "a.b", ".", "\"a\"", "[a]", "a,b", "a\r", "\r", "\v", "\x00", "é", "\xff", "\xa0",
		"99999999999999999999", "-99999999999999999999", "9223372036854775808", "-9223372036854775809",
		"00000000000000000000000000000001", strings.Repeat("1", 2000),
	} {
		refuses(t, w, 0, api.ErrForm)
		refuses(t, "(a '"+w+")", 4, api.ErrForm)
	}
}

func TestP14Range(t *testing.T) {
	reads(t, "1099511627776", num(api.MaxInt))
	reads(t, "-1099511627776", num(-api.MaxInt))
	refuses(t, "1099511627777", 0, api.ErrRange)
	refuses(t, "(a -1099511627777)", 3, api.ErrRange)
	refuses(t, "9223372036854775807", 0, api.ErrRange)
	refuses(t, "'-9223372036854775808", 1, api.ErrRange)
}

func TestP14Source(t *testing.T) {
	if api.MaxSource != 3000 {
		t.Fatal("MaxSource is", api.MaxSource)
	}
	reads(t, "a"+strings.Repeat(" ", api.MaxSource-1), sym("a"))
	refuses(t, "a"+strings.Repeat(" ", api.MaxSource), 0, api.ErrSize)
	refuses(t, strings.Repeat(";", api.MaxSource+1), 0, api.ErrSize)
	refuses(t, "A"+strings.Repeat(")", api.MaxSource), 0, api.ErrSize)
	refuses(t, strings.Repeat(" ", 1<<20), 0, api.ErrSize)
	refuses(t, strings.Repeat(" ", api.MaxSource-1)+"(", api.MaxSource, api.ErrShort)
}

func TestP14Items(t *testing.T) {
	if api.MaxItems != 400 {
		t.Fatal("MaxItems is", api.MaxItems)
	}
	words := strings.Repeat("a ", 399)
	ok := func(s string) {
		t.Helper()
		if _, place, e := read.Read(s); place != 0 || e != api.OK {
			t.Errorf("%q: %d, %v", s, place, e)
		}
	}
	ok(words + "a")
	ok(words + "a ; b")
	refuses(t, words+"a b", 800, api.ErrSize)
	refuses(t, words+"a (", 800, api.ErrSize)
	refuses(t, words+"a  'b", 801, api.ErrSize)
	// outer ones count
	ok("(" + words + ")")
	refuses(t, "("+words+"a)", 799, api.ErrSize)
	ok(words + "()")
	refuses(t, words+"(b)", 799, api.ErrSize)
	// a `'` counts as one, its word quote as none
	ok(strings.Repeat("'a", 200))
	refuses(t, strings.Repeat("'a", 200)+" b", 401, api.ErrSize)
	refuses(t, words+"'b", 799, api.ErrSize)
	ok(strings.Repeat("(quote a)", 133) + "a")
	refuses(t, strings.Repeat("(quote a)", 133)+"'a", 133*9+1, api.ErrSize)
}

func TestP14Deep(t *testing.T) {
	open, shut := strings.Repeat("(", api.MaxNest), strings.Repeat(")", api.MaxNest)
	reads(t, open+shut, nested(api.MaxNest-1, list()))
	reads(t, open[1:]+"a"+shut[1:], nested(api.MaxNest-1, sym("a")))
	refuses(t, open+"a"+shut, 40, api.ErrDeep)
	refuses(t, open+" ()"+shut, 41, api.ErrDeep)
	refuses(t, open+"'a"+shut, 40, api.ErrDeep)
	refuses(t, "a "+open+"\n1"+shut, 43, api.ErrDeep)
	reads(t, open+shut+"a", nested(api.MaxNest-1, list()), sym("a"))
	// `'` counts as one
	quotes := strings.Repeat("'", api.MaxNest)
	want := sym("a")
	for range api.MaxNest - 1 {
		want = quoted(want)
	}
	reads(t, quotes[1:]+"a", want)
	refuses(t, quotes+"a", 40, api.ErrDeep)
	refuses(t, quotes[:20]+open[:20]+"a"+shut[:20], 40, api.ErrDeep)
	refuses(t, strings.Repeat("(", api.MaxSource), 40, api.ErrDeep)
}

// The first thing that is wrong tells; of one thing, what is named first.
func TestP14WhichIsTold(t *testing.T) {
	open, words := strings.Repeat("(", api.MaxNest), strings.Repeat("a ", api.MaxItems)
	refuses(t, "A )", 0, api.ErrForm)
	refuses(t, "(1099511627777 A", 1, api.ErrRange)
	refuses(t, "(A 1099511627777", 1, api.ErrForm)
	refuses(t, "(a A", 3, api.ErrForm)
	refuses(t, "a ) "+words, 2, api.ErrForm)
	refuses(t, words+"A", 800, api.ErrSize)
	refuses(t, words+"1099511627777", 800, api.ErrSize)
	refuses(t, words+")", 800, api.ErrSize)
	refuses(t, words[2:]+"(", 799, api.ErrShort)
	refuses(t, words[2:]+"'", 799, api.ErrShort)
	refuses(t, words[2:]+"')", 799, api.ErrSize)
	refuses(t, open+"A", 40, api.ErrDeep)
	refuses(t, open+"1099511627777", 40, api.ErrDeep)
	refuses(t, open+" ", 41, api.ErrShort)
	refuses(t, open[1:]+"'", 40, api.ErrShort)
	refuses(t, open[1:]+"')", 40, api.ErrDeep)
	refuses(t, words[:720]+open+"a", 760, api.ErrSize)
	refuses(t, words[:718]+open+"a", 758, api.ErrDeep)
}

// What is shown is read as it was.
func TestShownIsRead(t *testing.T) {
	for i := range 3000 {
		d := drawn(newDice(i), 4)
		s, e := read.Show(d)
		if e != api.OK {
			t.Fatalf("%v: %v", d, e)
		}
		reads(t, s, d)
	}
	deep := nested(api.MaxNest-1, num(-api.MaxInt))
	s, _ := read.Show(deep)
	reads(t, s, deep)
}

// What is read may be, and is shown and read as it was; what is refused tells
// no data and a place in the text. All texts of some bytes.
func TestAllShortTexts(t *testing.T) {
	const alphabet = "a1-(') ;\n#t"
	for n := range 6 {
		all := 1
		for range n {
			all *= len(alphabet)
		}
		for k := range all {
			b := make([]byte, n)
			for i := range b {
				b[i], k = alphabet[k%len(alphabet)], k/len(alphabet)
			}
			checkRead(t, string(b))
		}
	}
}

func TestDrawnBytes(t *testing.T) {
	for i := range 3000 {
		next := newDice(i)
		b := make([]byte, next(60))
		for j := range b {
			b[j] = byte(next(256))
		}
		checkRead(t, string(b))
	}
}

func checkRead(t *testing.T, s string) {
	t.Helper()
	l, place, e := read.Read(s)
	if e != api.OK {
		if len(l) > 0 || place < 0 || place > len(s) || e == api.ErrShort && place != len(s) {
			t.Fatalf("%q: %v, %d, %v", s, l, place, e)
		}
		return
	}
	text := ""
	for _, d := range l {
		shown, e := read.Show(d)
		if e != api.OK {
			t.Fatalf("%q: %v, %v", s, d, e)
		}
		text += shown + " "
	}
	again, _, e := read.Read(text)
	if place != 0 || e != api.OK || !sameAll(l, again) {
		t.Fatalf("%q: %v, %d; again %v, %v", s, l, place, again, e)
	}
}

// No two lists of an answer share memory, nor do two answers.
func TestAnswersAreNew(t *testing.T) {
	const s = "(a b c) ((d) e 'f) ((g) (h i j)) () x"
	one, _, _ := read.Read(s)
	two, _, _ := read.Read(s)
	want := copyAll(two)
	rest := lists(list(one...))
	for len(rest) > 0 {
		room := rest[0][:cap(rest[0])]
		for i := range room {
			room[i].Kind = -1
		}
		rest = rest[1:]
		for _, l := range rest {
			for _, d := range l[:cap(l)] {
				if d.Kind == -1 {
					t.Fatal("two lists of an answer share memory")
				}
			}
		}
	}
	if !sameAll(two, want) {
		t.Error("two answers share memory:", two)
	}
}

// lists of a datum, outer ones first.
func lists(d api.Datum) [][]api.Datum {
	if d.Kind != api.DList {
		return nil
	}
	l := [][]api.Datum{d.Items}
	for _, x := range d.Items {
		l = append(l, lists(x)...)
	}
	return l
}

// newDice: numbers that look drawn, the same each time.
func newDice(seed int) func(int) int {
	x := uint64(seed)*2862933555777941757 + 3037000493
	return func(most int) int {
		x = x*6364136223846793005 + 1442695040888963407
		return int(x>>33) % most
	}
}

// drawn datum that may be, with at most so many levels.
func drawn(next func(int) int, levels int) api.Datum {
	kind := next(4)
	switch {
	case kind == 0:
		return num(next(1<<31)*512 - next(1<<31)*512)
	case kind == 1:
		return boolean(next(2))
	case kind == 2 || levels == 0:
		return sym([]string{"a", "-", "+1", "set!", "x-y", "quote", "z0123456789_*/<>"}[next(7)])
	}
	var l []api.Datum
	for range next(5) {
		l = append(l, drawn(next, levels-1))
	}
	return list(l...)
}
