package code

import "graftery/api"

// builder builds the code of one function.
type builder struct {
	program  *program
	outer    *builder   // of the function around it; nil: there is none
	bound    []variable // by it, at this place: each one's place is that of its local
	locals   int        // the most that are bound at one place
	captured []variable // from around it
	code     []api.Instr
}

// add an instruction: its place. Code that is too long is refused in the end,
// whatever stands in it, so that it need not grow on.
func (b *builder) add(in api.Instr) int {
	if len(b.code) <= api.MaxCode {
		b.code = append(b.code, in)
	}
	return len(b.code) - 1
}

func (b *builder) push(w api.Word) { b.add(api.Instr{Op: api.OConst, W: w}) }

// land: the jump at a place is one to here.
func (b *builder) land(jump int) { b.code[jump].A = len(b.code) }

// function with this body. Its params are put in boxes behind the first tick:
// a function must begin with that.
func (b *builder) function(body api.Expr) {
	b.add(api.Instr{Op: api.OTick})
	for i, v := range b.bound {
		if v.boxed {
			b.add(api.Instr{Op: api.OLocal, A: i})
			b.store(i)
		}
	}
	b.work(body, true)
}

// store what is on top as the value of the variable of a local.
func (b *builder) store(local int) {
	if b.bound[local].boxed {
		b.add(api.Instr{Op: api.OBox})
	}
	b.add(api.Instr{Op: api.OStore, A: local})
}

// evaluate an expression: its value is pushed, or, if it is the last one of
// the function, told.
func (b *builder) evaluate(x api.Expr, last bool) {
	b.add(api.Instr{Op: api.OTick})
	b.work(x, last)
}

// evaluateAll, one by one.
func (b *builder) evaluateAll(l []api.Expr) {
	for _, x := range l {
		b.evaluate(x, false)
	}
}

// work: what is done to evaluate an expression, behind its tick.
func (b *builder) work(x api.Expr, last bool) {
	switch x.Kind {
	case api.If:
		b.choose(x.Args, last)
	case api.Let:
		b.let(x, last)
	case api.Begin:
		b.sequence(x.Args, last)
	case api.Call:
		b.call(x.Args, last)
	default:
		b.value(x)
		if last {
			b.add(api.Instr{Op: api.OReturn})
		}
	}
}

// choose one of two. If these are the last, no way goes on behind either.
func (b *builder) choose(l []api.Expr, last bool) {
	b.evaluate(l[0], false)
	other := b.add(api.Instr{Op: api.OElse})
	b.evaluate(l[1], last)
	if last {
		b.land(other)
		b.evaluate(l[2], true)
		return
	}
	end := b.add(api.Instr{Op: api.OJump})
	b.land(other)
	b.evaluate(l[2], false)
	b.land(end)
}

// let: all values are on the stack ahead of the first one that has a name, so
// that none of them is seen by another.
func (b *builder) let(x api.Expr, last bool) {
	n := len(x.Names)
	b.evaluateAll(x.Args[:n])
	first := len(b.bound)
	b.bound = append(b.bound, variables(x)...)
	b.locals = max(b.locals, len(b.bound))
	for i := first + n - 1; i >= first; i-- {
		b.store(i)
	}
	b.evaluate(x.Args[n], last)
	b.bound = b.bound[:first]
}

func (b *builder) sequence(l []api.Expr, last bool) {
	end := len(l) - 1
	for _, x := range l[:end] {
		b.evaluate(x, false)
		b.add(api.Instr{Op: api.OPop})
	}
	b.evaluate(l[end], last)
}

func (b *builder) call(l []api.Expr, last bool) {
	b.evaluateAll(l)
	in := api.Instr{Op: api.OCall, A: len(l) - 1}
	if last {
		in.Op = api.OTail
	}
	b.add(in)
}

// value of all other kinds: it is pushed.
func (b *builder) value(x api.Expr) {
	switch x.Kind {
	case api.Const:
		b.datum(x.Datum)
	case api.Local:
		b.local(x.S)
	case api.Global:
		b.add(api.Instr{Op: api.OGlobal, S: x.S})
	case api.Was:
		b.add(api.Instr{Op: api.OLocal, A: x.N})
	case api.Lambda:
		b.closure(x)
	case api.Set:
		b.set(x)
	default:
		b.evaluateAll(x.Args)
		b.add(operation(x))
	}
}

// operation on the arguments of an expression.
func operation(x api.Expr) api.Instr {
	switch x.Kind {
	case api.Prim:
		return api.Instr{Op: api.OPrim, S: x.S, A: len(x.Args)}
	case api.Make:
		return api.Instr{Op: api.OMake, S: x.S, A: len(x.Args)}
	case api.Is:
		return api.Instr{Op: api.OIs, S: x.S}
	case api.Get:
		return api.Instr{Op: api.OGet, S: x.S, T: x.Names[0]}
	}
	return api.Instr{Op: api.OPut, S: x.S, T: x.Names[0]}
}

// datum: its value is pushed, which is new each time, if it is a list.
func (b *builder) datum(d api.Datum) {
	switch d.Kind {
	case api.DInt:
		b.push(api.Word{Kind: api.Int, N: d.N})
	case api.DBool:
		b.push(api.Word{Kind: api.Bool, N: d.N})
	case api.DSym:
		b.push(api.Word{Kind: api.Sym, S: d.S})
	case api.DList:
		b.list(d.Items)
	}
}

func (b *builder) list(l []api.Datum) {
	for _, d := range l {
		b.datum(d)
	}
	b.push(api.Word{Kind: api.Nil})
	for range l {
		b.add(api.Instr{Op: api.OPrim, S: "cons", A: 2})
	}
}

func (b *builder) local(name string) {
	in, boxed := b.find(name)
	b.add(in)
	if boxed {
		b.add(api.Instr{Op: api.OOpen})
	}
}

// closure of a function that is in this one, with what that has from here.
func (b *builder) closure(x api.Expr) {
	place, captured := b.program.build(b, variables(x), x.Args[0])
	for _, v := range captured {
		in, _ := b.find(v.name)
		b.add(in)
	}
	b.add(api.Instr{Op: api.OClose, A: place, B: len(captured)})
}

func (b *builder) set(x api.Expr) {
	if x.N == 0 {
		b.evaluate(x.Args[0], false)
		b.add(api.Instr{Op: api.OAssign, S: x.S})
	} else {
		b.setLocal(x)
	}
	b.push(api.Word{Kind: api.Nil})
}

// setLocal: a variable that is not boxed is none from around the function,
// since one that is captured and changes is boxed.
func (b *builder) setLocal(x api.Expr) {
	in, boxed := b.find(x.S)
	if boxed {
		b.add(in)
		b.evaluate(x.Args[0], false)
		b.add(api.Instr{Op: api.OFill})
		return
	}
	b.evaluate(x.Args[0], false)
	b.add(api.Instr{Op: api.OStore, A: in.A})
}
