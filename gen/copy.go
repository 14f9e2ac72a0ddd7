package gen

import (
	"slices"

	"yucca/api"
)

// What is told is new memory: whoever writes into it changes nothing that the
// Result keeps.

// Grammar tells the grammar.
func (r *Result) Grammar() api.Grammar {
	g := r.grammar
	g.Toks = slices.Clone(g.Toks)
	g.Nons = slices.Clone(g.Nons)
	g.Prods = each(g.Prods, func(p api.Prod) api.Prod {
		p.Right = slices.Clone(p.Right)
		p.Args = slices.Clone(p.Args)
		return p
	})
	return g
}

// States tells the machine.
func (r *Result) States() []api.State {
	return each(r.states, func(s api.State) api.State {
		return api.State{Kernel: slices.Clone(s.Kernel), Moves: slices.Clone(s.Moves)}
	})
}

// Looks tells behind which tokens the states reduce.
func (r *Result) Looks() []api.Look {
	return each(r.looks, func(l api.Look) api.Look {
		l.Toks = slices.Clone(l.Toks)
		return l
	})
}

// Cells tells what may be done.
func (r *Result) Cells() []api.Cell {
	return each(r.cells, func(c api.Cell) api.Cell {
		c.Prods = slices.Clone(c.Prods)
		return c
	})
}

// Dense tells what is done.
func (r *Result) Dense() api.Dense {
	return api.Dense{
		Acts:  each(r.dense.Acts, slices.Clone[[]api.Act]),
		Gotos: each(r.dense.Gotos, slices.Clone[[]int]),
	}
}

// Clashes tells the conflicts that no level settles.
func (r *Result) Clashes() []api.Clash { return slices.Clone(r.clashes) }

// Tables tells the packed tables.
func (r *Result) Tables() api.Tables {
	t := r.tables
	t.Def = slices.Clone(t.Def)
	t.Acts = comb(t.Acts)
	t.GoDef = slices.Clone(t.GoDef)
	t.Gos = comb(t.Gos)
	t.Left = slices.Clone(t.Left)
	t.Len = slices.Clone(t.Len)
	t.Nums = slices.Clone(t.Nums)
	return t
}

func comb(c api.Comb) api.Comb {
	return api.Comb{Base: slices.Clone(c.Base), Val: slices.Clone(c.Val), Chk: slices.Clone(c.Chk)}
}

// each tells a new list of what f makes of the parts of l.
func each[T any](l []T, f func(T) T) []T {
	var all []T
	for _, x := range l {
		all = append(all, f(x))
	}
	return all
}
