package vm

import "graftery/api"

// Primitives.
const (
	primAdd = iota
	primSubtract
	primMultiply
	primQuotient
	primRemainder
	primEqual
	primLess
	primCons
	primSame
	primCar
	primCdr
	primIsNull
	primIsPair
	primNot
	primError
)

// primitive: which one, and how many arguments it has.
type primitive struct{ which, args int }

func newPrimitives() map[string]primitive {
	return map[string]primitive{
		"+": {primAdd, 2}, "-": {primSubtract, 2}, "*": {primMultiply, 2},
		"quotient": {primQuotient, 2}, "remainder": {primRemainder, 2},
		"=": {primEqual, 2}, "<": {primLess, 2}, "cons": {primCons, 2}, "eq?": {primSame, 2},
		"car": {primCar, 1}, "cdr": {primCdr, 1}, "null?": {primIsNull, 1}, "pair?": {primIsPair, 1},
		"not": {primNot, 1}, "error": {primError, 1},
	}
}

// primitive of the values on top; what comes of it is pushed in their place.
func (m *machine) primitive(p primitive) api.Errno {
	rest := len(m.values) - p.args
	args := m.values[rest:]
	for i, w := range args {
		args[i] = m.heap.find(w)
	}
	if p.which == primCons {
		return m.build([]api.Word{{Kind: api.Pair}}, 2)
	}
	w, e := m.plain(p.which, args)
	if e != api.OK {
		return e
	}
	m.values = append(m.values[:rest], w)
	return api.OK
}

// plain: what comes of a primitive that makes nothing new.
func (m *machine) plain(which int, args []api.Word) (api.Word, api.Errno) {
	switch which {
	case primSame:
		return truth(args[0] == args[1]), api.OK
	case primCar:
		return m.half(args[0], 0)
	case primCdr:
		return m.half(args[0], 1)
	case primIsNull:
		return truth(args[0].Kind == api.Nil), api.OK
	case primIsPair:
		return truth(m.heap.is(args[0], api.Pair)), api.OK
	case primNot:
		return truth(isFalse(args[0])), api.OK
	case primError:
		return api.Word{}, api.ErrRaise
	}
	if args[0].Kind != api.Int || args[1].Kind != api.Int {
		return api.Word{}, api.ErrKind
	}
	return compute(which, args[0].N, args[1].N)
}

func isFalse(w api.Word) bool { return w.Kind == api.Bool && w.N == 0 }

// half of a pair.
func (m *machine) half(w api.Word, i int) (api.Word, api.Errno) {
	if !m.heap.is(w, api.Pair) {
		return api.Word{}, api.ErrKind
	}
	return m.heap.values(w.N)[i], api.OK
}

// compute of two numbers that are from -MaxInt to MaxInt.
func compute(which, a, b int) (api.Word, api.Errno) {
	switch which {
	case primEqual:
		return truth(a == b), api.OK
	case primLess:
		return truth(a < b), api.OK
	case primAdd:
		return bounded(a + b)
	case primSubtract:
		return bounded(a - b)
	case primMultiply:
		if a != 0 && size(b) > api.MaxInt/size(a) { // a * b might not fit into 64 bits
			return api.Word{}, api.ErrRange
		}
		return bounded(a * b)
	}
	if b == 0 {
		return api.Word{}, api.ErrRange
	}
	if which == primQuotient {
		return bounded(a / b)
	}
	return bounded(a % b)
}

// size of a number, without its sign.
func size(n int) int { return max(n, -n) }

func bounded(n int) (api.Word, api.Errno) {
	if size(n) > api.MaxInt {
		return api.Word{}, api.ErrRange
	}
	return number(n), api.OK
}
