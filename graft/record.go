package graft

import (
	"slices"

	"graftery/api"
	"graftery/code"
)

func (g *grafter) addRecords() api.Errno {
	g.reserveMoves()
	for _, s := range g.unit.Shapes {
		if e := g.addRecord(copied(s)); e != api.OK {
			return e
		}
	}
	if len(g.world.Recs) > api.MaxRecs {
		return api.ErrSize
	}
	return api.OK
}

// reserveMoves: places for the functions of upgrades. These stand in the order
// of the upgrades, but are made in that of the records.
func (g *grafter) reserveMoves() {
	for _, p := range g.unit.Upgrades {
		g.moves = append(g.moves, len(g.world.Funcs))
		g.world.Funcs = append(g.world.Funcs, make([]api.Func, len(p.Exprs))...)
	}
}

func (g *grafter) addRecord(s api.Shape) api.Errno {
	at := g.record(s.Name)
	if at < 0 {
		g.world.Recs = append(g.world.Recs, api.Rec{Name: s.Name, Vers: []api.Shape{s}})
		return api.OK
	}
	r := &g.world.Recs[at]
	if i := g.upgrade(s.Name); i >= 0 {
		return g.addVersion(r, s, i)
	}
	if !slices.Equal(s.Fields, lastOf(*r).Fields) {
		return api.ErrNone
	}
	return api.OK
}

// addVersion to a record, by the upgrade at a place.
func (g *grafter) addVersion(r *api.Rec, s api.Shape, upgrade int) api.Errno {
	if len(r.Vers) == api.MaxVers {
		return api.ErrSize
	}
	olds := len(lastOf(*r).Fields)
	var places []int
	for i, x := range g.unit.Upgrades[upgrade].Exprs {
		f, e := code.Move(x, olds)
		if e != api.OK {
			return e
		}
		at := g.moves[upgrade] + i
		g.world.Funcs[at] = f
		places = append(places, at)
	}
	r.Vers = append(r.Vers, s)
	r.Moves = append(r.Moves, places)
	return api.OK
}
