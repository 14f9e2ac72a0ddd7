// Package syms: symbols of a grammar by their numbers. It stands beside the
// layers, on api alone.
package syms

import "yucca/api"

// IsTok tells whether s is a token of g.
func IsTok(g api.Grammar, s int) bool { return s >= 0 && s < len(g.Toks) }

// IsNon tells whether s is a nonterminal of g.
func IsNon(g api.Grammar, s int) bool {
	return s >= api.Non0 && s-api.Non0 < len(g.Nons)
}

// IsProd tells whether p is a production of g.
func IsProd(g api.Grammar, p int) bool { return p >= 0 && p < len(g.Prods) }

// ByLeft tells of each nonterminal, by its place, its productions, rising.
func ByLeft(g api.Grammar) [][]int {
	l := make([][]int, len(g.Nons))
	for i, p := range g.Prods {
		l[p.Left] = append(l[p.Left], i)
	}
	return l
}
