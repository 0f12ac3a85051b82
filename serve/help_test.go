package serve_test

import (
	"fmt"
	"slices"
	"strconv"
	"strings"
	"testing"

	"graftery/api"
	"graftery/read"
	"graftery/serve"
	"graftery/vm"
)

// Data.

func num(n int) api.Datum           { return api.Datum{Kind: api.DInt, N: n} }
func sym(s string) api.Datum        { return api.Datum{Kind: api.DSym, S: s} }
func list(l ...api.Datum) api.Datum { return api.Datum{Kind: api.DList, Items: l} }

// nums: a list of so many.
func nums(n int) api.Datum { return list(slices.Repeat([]api.Datum{num(1)}, n)...) }

// nested: a list in so many others.
func nested(n int) api.Datum {
	d := list()
	for range n {
		d = list(d)
	}
	return d
}

// Words.

func number(n int) api.Word { return api.Word{Kind: api.Int, N: n} }
func null() api.Word        { return api.Word{Kind: api.Nil} }
func ref(n int) api.Word    { return api.Word{Kind: api.Ref, N: n} }
func head(kind int) api.Word {
	return api.Word{Kind: kind}
}

func pair(a, b api.Word) []api.Word { return []api.Word{head(api.Pair), a, b} }

func record(place, version int, l ...api.Word) []api.Word {
	return append([]api.Word{{Kind: api.Record, N: place}, number(version), number(len(l))}, l...)
}

func moved(to, values int) []api.Word {
	return append([]api.Word{{Kind: api.Moved, N: to}, number(0), number(values)}, slices.Repeat([]api.Word{null()}, values)...)
}

// Acts.

func source(s string) api.Act { return api.Act{Kind: api.Update, Source: s} }

func collect() api.Act { return api.Act{Kind: api.Collect} }

func ask(name string, fuel int, l ...api.Datum) api.Act {
	return api.Act{Kind: api.Request, Name: name, Data: l, Fuel: fuel}
}

// act of a line: one that begins with `(` is a source, `collect` is that, all
// others are requests: a name, and data.
func act(t *testing.T, line string) api.Act {
	t.Helper()
	if strings.HasPrefix(line, "(") {
		return source(line)
	}
	if line == "collect" {
		return collect()
	}
	name, rest, _ := strings.Cut(line, " ")
	l, _, e := read.Read(rest)
	if e != api.OK {
		t.Fatalf("%s: not read: %v", line, e)
	}
	return ask(name, api.MaxFuel, l...)
}

func acts(t *testing.T, lines ...string) []api.Act {
	t.Helper()
	var l []api.Act
	for _, s := range lines {
		l = append(l, act(t, s))
	}
	return l
}

// answerText: the text of an answer, or `!` and what is refused.
func answerText(a api.Answer) string {
	if a.Code != api.OK {
		return "!" + strconv.Itoa(int(a.Code)) + a.Text
	}
	return a.Text
}

func answerTexts(l []api.Answer) []string {
	var texts []string
	for _, a := range l {
		texts = append(texts, answerText(a))
	}
	return texts
}

// runs a script: its answers, and the world behind it, which may be.
func runs(t *testing.T, limit int, l []api.Act) ([]api.Answer, api.World) {
	t.Helper()
	answers, w, e := serve.Run(limit, l)
	if e != api.OK || len(answers) != len(l) {
		t.Fatalf("%s: %v, %d answers", short(l), e, len(answers))
	}
	if vm.Check(w) != api.OK || w.Heap.Limit != limit {
		t.Fatalf("%s: a world that may not be: %s", short(l), short(w))
	}
	return answers, w
}

// tells: what the acts of a script tell.
func tells(t *testing.T, limit int, l []api.Act, want ...string) api.World {
	t.Helper()
	answers, w := runs(t, limit, l)
	if got := answerTexts(answers); !slices.Equal(got, want) {
		t.Errorf("%s: %s, want %s", short(l), short(got), short(want))
	}
	return w
}

// last: what the last act of a script tells.
func last(t *testing.T, limit int, want string, lines ...string) {
	t.Helper()
	answers, _ := runs(t, limit, acts(t, lines...))
	if got := answerText(answers[len(answers)-1]); got != want {
		t.Errorf("%q: %.300s, want %.300s (%v)", lines, got, want, answerTexts(answers))
	}
}

// short: the beginning of what anything is as text.
func short(x any) string { return fmt.Sprintf("%.500s", fmt.Sprint(x)) }

// refused: `!` and its number.
func refused(e api.Errno) string { return "!" + strconv.Itoa(int(e)) }

// grown: the world behind some acts, none of which is refused.
func grown(t *testing.T, limit int, lines ...string) api.World {
	t.Helper()
	answers, w := runs(t, limit, acts(t, lines...))
	if i := slices.IndexFunc(answers, func(a api.Answer) bool { return a.Code != api.OK }); i >= 0 {
		t.Fatalf("%s: %v", lines[i], answers[i].Code)
	}
	return w
}

// value of a global.
func value(t *testing.T, w api.World, name string) api.Word {
	t.Helper()
	i := slices.IndexFunc(w.Globs, func(g api.Glob) bool { return g.Name == name })
	if i < 0 {
		t.Fatalf("there is no %s", name)
	}
	return w.Globs[i].Value
}

// words of a world's heap that are heads of a kind.
func heads(w api.World, kind int) int {
	n := 0
	for _, x := range w.Heap.Words {
		if x.Kind == kind {
			n++
		}
	}
	return n
}

// newDice: numbers that look drawn, the same each time.
func newDice(seed int) func(int) int {
	x := uint64(seed)*2862933555777941757 + 3037000493
	return func(most int) int {
		x = x*6364136223846793005 + 1442695040888963407
		return int(x>>33) % most
	}
}
