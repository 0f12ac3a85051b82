package graft

import (
	"graftery/api"
	"graftery/code"
	"graftery/unit"
)

func (g *grafter) checkShapes() api.Errno {
	for i, s := range g.unit.Shapes {
		if e := unit.CheckShape(s); e != api.OK {
			return e
		}
		if g.shape(s.Name) < i {
			return api.ErrTwice
		}
	}
	return api.OK
}

func (g *grafter) checkDefs() api.Errno {
	for i, d := range g.unit.Defs {
		if !isFree(d.Name) {
			return api.ErrForm
		}
		if g.def(d.Name) < i {
			return api.ErrTwice
		}
		if e := code.Check(d.Expr); e != api.OK {
			return e
		}
	}
	return api.OK
}

// isFree: is a name free? That of a global must be, too.
func isFree(name string) bool {
	return unit.Check(api.Env{Globals: []string{name}}) == api.OK
}

func (g *grafter) checkUpgrades() api.Errno {
	for i, p := range g.unit.Upgrades {
		old, now := g.record(p.Name), g.shape(p.Name)
		switch {
		case old < 0 || now < 0:
			return api.ErrNone
		case g.upgrade(p.Name) < i:
			return api.ErrTwice
		case len(p.Exprs) != len(g.unit.Shapes[now].Fields):
			return api.ErrCount
		}
		if e := checkMoves(p.Exprs, len(lastOf(g.world.Recs[old]).Fields)); e != api.OK {
			return e
		}
	}
	return api.OK
}

// checkMoves: expressions of so many old fields.
func checkMoves(l []api.Expr, olds int) api.Errno {
	for _, x := range l {
		if e := code.CheckMove(x, olds); e != api.OK {
			return e
		}
	}
	return api.OK
}
