package frag

import (
	"graftwork/api"
	"graftwork/tree"
)

// gap is the Rule of what stands in a row for a gap. No FNode of a right template has it, and no tree of a grammar, so that a gap that is left makes no tree of old's.
const gap = -1

// Back leads t, a tree of the new grammar, back to the one tree of old that it makes.
func Back(old api.Grammar, s api.Step, t api.Tree) (api.Tree, api.Fault) {
	if f := Check(old, s); f.Code != 0 {
		return api.Tree{}, f
	}
	if f := tree.Check(s.G, t, s.G.Start); f.Code != 0 {
		return api.Tree{}, f
	}
	m := maker{frags: s.Frags}
	row := m.tree(t)
	if m.full {
		return api.Tree{}, api.Fault{Code: api.ErrMany, At: -1}
	}
	if len(row) != 1 || tree.Check(old, row[0], old.Start).Code != 0 {
		return api.Tree{}, api.Fault{Code: api.ErrOther, At: -1}
	}
	return tree.Own(row[0]), api.Fault{}
}

// maker makes rows of trees and gaps, till one is too great; from then on it is full, and makes no more.
type maker struct {
	frags [][]api.Frag
	full  bool
}

// tree answers the row that t makes.
func (m *maker) tree(t api.Tree) []api.Tree {
	var kids [][]api.Tree
	for _, kid := range t.Kids {
		kids = append(kids, m.tree(kid))
	}
	return m.row(m.frags[t.Rule], kids)
}

// row answers the row that parts make of those of the kids.
func (m *maker) row(l []api.Frag, kids [][]api.Tree) []api.Tree {
	var row []api.Tree
	for _, p := range l {
		if m.full {
			return nil
		}
		row = append(row, m.part(p, kids)...)
	}
	return m.bounded(row)
}

func (m *maker) part(p api.Frag, kids [][]api.Tree) []api.Tree {
	switch p.Op {
	case api.FHole:
		return kids[p.N]
	case api.FGap:
		return []api.Tree{{Rule: gap}}
	}
	// Also where no gap takes it in, what L makes is made on the way, and may be too great.
	below := m.row(p.L, kids)
	if p.Op == api.FFill {
		return m.bounded(fill(kids[p.N], below))
	}
	return []api.Tree{{Rule: p.N, Kids: below}}
}

// bounded answers row, if it is not too great.
func (m *maker) bounded(row []api.Tree) []api.Tree {
	if size(row) > api.MaxNodes {
		m.full = true
		return nil
	}
	return row
}

// fill answers row with what in has in the place of each of its gaps.
func fill(row, in []api.Tree) []api.Tree {
	var out []api.Tree
	for _, t := range row {
		if t.Rule == gap {
			out = append(out, in...)
			continue
		}
		out = append(out, api.Tree{Rule: t.Rule, Kids: fill(t.Kids, in)})
	}
	return out
}

// size answers how many trees and gaps a row has, at any depth.
func size(row []api.Tree) int {
	n := len(row)
	for _, t := range row {
		n += size(t.Kids)
	}
	return n
}
