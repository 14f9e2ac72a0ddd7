package sample

import "yucca/api"

// Tree tells a tree of the start symbol, another one for each seed, whose
// leaves stand at 0, 1, 2, ..; false: nothing comes of the start symbol.
func Tree(g api.Grammar, seed int) (api.Node, bool) {
	w := &grower{g: g, d: dice{state: uint64(seed)*7919 + 1}, height: heights(g), room: 2 + seed%12}
	start := g.Prods[0].Right[0]
	if w.height[start-api.Non0] == 0 {
		return api.Node{}, false
	}
	return w.grow(start), true
}

// heights tells of each nonterminal how high its lowest tree is; 0: there is
// none.
func heights(g api.Grammar) []int {
	l := make([]int, len(g.Nons))
	for round := 1; round <= len(g.Nons); round++ {
		for _, p := range g.Prods {
			if l[p.Left] == 0 && low(l, p, round) {
				l[p.Left] = round
			}
		}
	}
	return l
}

// low tells whether all symbols of a production have trees lower than round.
func low(heights []int, p api.Prod, round int) bool {
	for _, s := range p.Right {
		if s >= api.Non0 && (heights[s-api.Non0] == 0 || heights[s-api.Non0] >= round) {
			return false
		}
	}
	return true
}

type grower struct {
	g      api.Grammar
	d      dice
	height []int
	room   int // how many nodes may be chosen freely
	leaves int
}

func (w *grower) grow(sym int) api.Node {
	if sym < api.Non0 {
		w.leaves++
		return api.Node{Sym: sym, Prod: -1, At: w.leaves - 1}
	}
	w.room--
	n := api.Node{Sym: sym, Prod: w.choose(sym - api.Non0), At: -1}
	for _, s := range w.g.Prods[n.Prod].Right {
		n.Kids = append(n.Kids, w.grow(s))
	}
	return n
}

// choose tells a production of the nonterminal of which something comes;
// without room the one of the lowest tree.
func (w *grower) choose(non int) int {
	var may []int
	for i, p := range w.g.Prods {
		if p.Left != non {
			continue
		}
		if low(w.height, p, w.height[non]) && w.room <= 0 {
			return i
		}
		if low(w.height, p, len(w.g.Nons)+1) {
			may = append(may, i)
		}
	}
	return may[w.d.below(len(may))]
}
