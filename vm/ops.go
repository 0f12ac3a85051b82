package vm

import "graftery/api"

// Where the way goes on behind an instruction.
const (
	goesNext = iota // at the next place
	goesTo          // at A
	goesBoth        // at either
	goesNowhere
)

// effect of an operator on the stack of its call, and on the way.
type effect struct {
	takes  int
	byA    int // how many more it takes for each of A
	byB    int // and for each of B
	leaves int
	goes   int
	inMove bool // may it be in a function that makes a field of old ones?
}

// effects of all operators; there is none at 0.
var effects = [api.OPut + 1]effect{
	api.OTick:   {inMove: true},
	api.OConst:  {leaves: 1, inMove: true},
	api.OLocal:  {leaves: 1, inMove: true},
	api.OStore:  {takes: 1},
	api.OCapt:   {leaves: 1},
	api.OBox:    {takes: 1, leaves: 1},
	api.OOpen:   {takes: 1, leaves: 1},
	api.OFill:   {takes: 2},
	api.OGlobal: {leaves: 1},
	api.OAssign: {takes: 1},
	api.OClose:  {byB: 1, leaves: 1},
	api.OCall:   {takes: 1, byA: 1, leaves: 1},
	api.OTail:   {takes: 1, byA: 1, leaves: 1, goes: goesNowhere},
	api.OReturn: {takes: 1, goes: goesNowhere, inMove: true},
	api.OJump:   {goes: goesTo, inMove: true},
	api.OElse:   {takes: 1, goes: goesBoth, inMove: true},
	api.OPop:    {takes: 1, inMove: true},
	api.OPrim:   {byA: 1, leaves: 1, inMove: true},
	api.OMake:   {byA: 1, leaves: 1},
	api.OIs:     {takes: 1, leaves: 1},
	api.OGet:    {takes: 1, leaves: 1},
	api.OPut:    {takes: 2, leaves: 1},
}

// isBelow: is a number from 0 to below another?
func isBelow(n, most int) bool { return 0 <= n && n < most }

// ways through code whose instructions may be.
type ways struct {
	code    []api.Instr
	heights []int // by places: how high the stack is there; -1: no way came there
}

// hold: do all ways go on to later places, never leave the code, and have the
// same stack wherever they meet? All that come to a place come from ahead of
// it, so that one walk from the first to the last place is enough.
func (y *ways) hold() bool {
	y.heights = make([]int, len(y.code))
	for at := range y.heights {
		y.heights[at] = -1
	}
	y.heights[0] = 0
	for at, in := range y.code {
		if y.heights[at] >= 0 && !y.goOn(at, in) {
			return false
		}
	}
	return true
}

// goOn behind the instruction at a place.
func (y *ways) goOn(at int, in api.Instr) bool {
	x := effects[in.Op]
	height := y.heights[at] - x.takes - x.byA*in.A - x.byB*in.B
	if height < 0 {
		return false
	}
	height += x.leaves
	if height > api.MaxStack {
		return false
	}
	switch x.goes {
	case goesNowhere:
		return true
	case goesTo:
		return y.come(at, in.A, height)
	case goesBoth:
		return y.come(at, in.A, height) && y.come(at, at+1, height)
	}
	return y.come(at, at+1, height)
}

// come from one place to another: may a way do so?
func (y *ways) come(from, to, height int) bool {
	if to <= from || to >= len(y.code) || y.heights[to] >= 0 && y.heights[to] != height {
		return false
	}
	y.heights[to] = height
	return true
}
