package unit_test

import (
	"slices"
	"strings"
	"testing"

	"graftery/api"
	"graftery/read"
	"graftery/unit"
)

var keywords = []string{"quote", "if", "let", "lambda", "begin", "set!", "record", "define", "upgrade", "was"}

var twoOf = []string{"+", "-", "*", "quotient", "remainder", "=", "<", "cons", "eq?"}

var oneOf = []string{"car", "cdr", "null?", "pair?", "not", "error"}

// Names that are nearly keywords or primitives, and those that are none.
var frees = []string{"a", "x1", "quotes", "iff", "lets", "set", "was?", "records", "++", "/", ">", "<=", "==", "?", "!", "_", "list", "eq", "car?", "errors", "abcdefghijklmnop"}

var noNames = []string{"", "1", "1a", "-1", "A", "a b", "a.b", "(a)", "#t", "é", "abcdefghijklmnopq"}

func TestP22FreeNames(t *testing.T) {
	bound := slices.Concat(keywords, twoOf, oneOf)
	if len(bound) != 25 {
		t.Fatal("there are", len(bound))
	}
	for _, s := range slices.Concat(bound, noNames) {
		if e := unit.CheckShape(shape(s)); e != api.ErrForm {
			t.Errorf("a record %q: %v", s, e)
		}
		if e := unit.Check(api.Env{Globals: []string{s}}); e != api.ErrForm {
			t.Errorf("a global %q: %v", s, e)
		}
	}
	for _, s := range frees {
		if e := unit.CheckShape(shape(s)); e != api.OK {
			t.Errorf("a record %q: %v", s, e)
		}
		if e := unit.Check(api.Env{Globals: []string{s}}); e != api.OK {
			t.Errorf("a global %q: %v", s, e)
		}
		forms(t, "(define (g "+s+") (define-it))", api.Env{Globals: []string{"define-it"}}, "g is lambda<"+s+">[call[global:define-it]]")
	}
	for _, s := range bound {
		refuses(t, "(define "+s+" 1)", env(), 0, api.ErrForm)
		refuses(t, "(define ("+s+") 1)", env(), 0, api.ErrForm)
		refuses(t, "(record "+s+")", env(), 0, api.ErrForm)
		isNot(t, s, api.ErrForm)
		isNot(t, "(lambda ("+s+") 1)", api.ErrForm)
		isNot(t, "(let (("+s+" 1)) 1)", api.ErrForm)
		isNot(t, "(set! "+s+" 1)", api.ErrForm)
	}
}

func TestP22Primitives(t *testing.T) {
	for _, s := range twoOf {
		is(t, "("+s+" n 1)", "prim:"+s+"[local:n const=1]")
		isNot(t, "("+s+")", api.ErrCount)
		isNot(t, "("+s+" n)", api.ErrCount)
		isNot(t, "("+s+" n n n)", api.ErrCount)
	}
	for _, s := range oneOf {
		is(t, "("+s+" n)", "prim:"+s+"[local:n]")
		isNot(t, "("+s+")", api.ErrCount)
		isNot(t, "("+s+" n n)", api.ErrCount)
	}
}

func TestP23CheckShape(t *testing.T) {
	if api.MaxFields != 6 {
		t.Fatal("MaxFields is", api.MaxFields)
	}
	for i, c := range []struct {
		s    api.Shape
		want api.Errno
	}{
		{shape("p"), api.OK},
		{shape("p", "a"), api.OK},
		{shape("p", names("a", 6)...), api.OK},
		{shape("p", names("a", 7)...), api.ErrSize},
		{shape("p", "p", "car", "if", "was", "x-y", "a!"), api.OK}, // fields need not be free
		{shape("p", "a", ""), api.ErrForm},
		{shape("p", "1"), api.ErrForm},
		{shape("p", "a", "b", "abcdefghijklmnopq"), api.ErrForm},
		{shape("p", "a", "a"), api.ErrTwice},
		{shape("p", "a", "b", "c", "d", "e", "a"), api.ErrTwice},
		{shape("", "a", "a"), api.ErrForm},
		{shape("car", names("a", 7)...), api.ErrForm},
		{shape("car", "a", "a"), api.ErrForm},
		{shape("p", "a", "a", "b", "c", "d", "e", "f"), api.ErrSize},
		{shape("p", "1", "a", "b", "c", "d", "e", "f"), api.ErrSize},
		{shape("p", "a", "a", "1"), api.ErrTwice},
		{shape("p", "a", "1", "a"), api.ErrForm},
		{shape("p", "1", "1"), api.ErrForm},
	} {
		if got := unit.CheckShape(c.s); got != c.want {
			t.Errorf("%d: %v: %v, want %v", i, c.s, got, c.want)
		}
	}
	for _, s := range noNames {
		if e := unit.CheckShape(shape("p", "a", s)); e != api.ErrForm {
			t.Errorf("a field %q: %v", s, e)
		}
	}
}

func shapes(n int) []api.Shape {
	var l []api.Shape
	for _, s := range names("p", n) {
		l = append(l, shape(s, "a"))
	}
	return l
}

func TestP23Check(t *testing.T) {
	if api.MaxGlobs != 40 || api.MaxRecs != 8 {
		t.Fatal("MaxGlobs is", api.MaxGlobs, "and MaxRecs", api.MaxRecs)
	}
	bad := api.Env{Shapes: []api.Shape{shape("1")}}
	for i, c := range []struct {
		v    api.Env
		want api.Errno
	}{
		{api.Env{}, api.OK},
		{env(), api.OK},
		{api.Env{Globals: names("x", 40), Shapes: shapes(8)}, api.OK},
		{api.Env{Globals: names("x", 41)}, api.ErrSize},
		{api.Env{Shapes: shapes(9)}, api.ErrSize},
		{api.Env{Globals: append(names("x", 40), "1"), Shapes: bad.Shapes}, api.ErrSize},
		{api.Env{Globals: []string{"1"}, Shapes: append(shapes(8), shape("1"))}, api.ErrSize},
		{api.Env{Globals: []string{"x", "x"}}, api.ErrTwice},
		{api.Env{Globals: []string{"x", "y", "x"}}, api.ErrTwice},
		{api.Env{Globals: []string{"x", "if"}}, api.ErrForm},
		{api.Env{Globals: []string{"x", "x", "if"}}, api.ErrTwice},
		{api.Env{Globals: []string{"if", "x", "x"}}, api.ErrForm},
		{api.Env{Globals: []string{"if", "if"}}, api.ErrForm},
		{api.Env{Globals: []string{"x", "x"}, Shapes: bad.Shapes}, api.ErrTwice},
		{bad, api.ErrForm},
		{api.Env{Shapes: []api.Shape{shape("p", names("a", 7)...)}}, api.ErrSize},
		{api.Env{Shapes: []api.Shape{shape("p"), shape("q", "a", "a")}}, api.ErrTwice},
		{api.Env{Shapes: []api.Shape{shape("p"), shape("q", "1")}}, api.ErrForm},
		{api.Env{Shapes: []api.Shape{shape("p"), shape("p", "a")}}, api.ErrTwice},
		{api.Env{Shapes: []api.Shape{shape("p"), shape("q"), shape("p")}}, api.ErrTwice},
		{api.Env{Shapes: []api.Shape{shape("p"), shape("p", "1")}}, api.ErrForm},
		{api.Env{Shapes: []api.Shape{shape("p"), shape("p"), shape("q", "1")}}, api.ErrTwice},
		{api.Env{Globals: []string{"p"}, Shapes: []api.Shape{shape("p", "p")}}, api.OK},
	} {
		if got := unit.Check(c.v); got != c.want {
			t.Errorf("%d: %v: %v, want %v", i, c.v, got, c.want)
		}
		if c.want != api.OK { // Form tells the same, ahead of all else
			refusesData(t, []api.Datum{num(1), {}, sym("x")}, c.v, 0, c.want)
		}
	}
}

// What is a name here is what read takes for one.
func TestP23NamesAreThoseOfRead(t *testing.T) {
	for c := range 256 {
		for _, s := range []string{string([]byte{byte(c)}), "a" + string([]byte{byte(c)}), "-" + string([]byte{byte(c)})} {
			ok := read.Check(sym(s)) == api.OK
			if got := unit.CheckShape(shape("p", s)) == api.OK; got != ok {
				t.Errorf("a field %q: %v", s, got)
			}
			free := ok && !slices.Contains(slices.Concat(twoOf, oneOf, keywords), s)
			if got := unit.Check(api.Env{Globals: []string{s}}) == api.OK; got != free {
				t.Errorf("a global %q: %v", s, got)
			}
		}
	}
	if unit.CheckShape(shape(strings.Repeat("a", api.MaxName))) != api.OK {
		t.Error("the longest name is refused")
	}
}
