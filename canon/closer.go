package canon

import (
	"cmp"
	"slices"

	"yucca/api"
	"yucca/bits"
	"yucca/first"
	"yucca/items"
	"yucca/syms"
	"yucca/vain"
)

// rest is what is known of the symbols from one on to the end of a Right.
type rest struct {
	first    bits.Set
	nullable bool
}

// then tells what begins the rest with one of the tokens behind it.
func (r rest) then(toks bits.Set) bits.Set {
	if r.nullable {
		return bits.Or(r.first, toks)
	}
	return r.first
}

// closer makes closures of items of one grammar.
type closer struct {
	g      api.Grammar
	byLeft [][]int
	rests  [][]rest // of each production, by the first symbol's place
}

func newCloser(g api.Grammar) *closer {
	c := &closer{g: g, byLeft: syms.ByLeft(g)}
	nullable := bits.Of(vain.Nullable(g)...)
	firsts := first.Of(g)
	for _, p := range g.Prods {
		l := make([]rest, len(p.Right)+1)
		l[len(p.Right)].nullable = true
		for d, s := range slices.Backward(p.Right) {
			if s < api.Non0 {
				l[d].first = bits.Of(s)
				continue
			}
			l[d].first = bits.Of(firsts[s-api.Non0]...)
			if nullable.Has(s) {
				l[d] = rest{bits.Or(l[d].first, l[d+1].first), l[d+1].nullable}
			}
		}
		c.rests = append(c.rests, l)
	}
	return c
}

// close goes through the items, those that come up too; what comes up of a
// nonterminal is held as the set of its tokens.
func (c *closer) close(l []api.Item1) []api.Item1 {
	behind := make([]bits.Set, len(c.g.Nons))
	var all []api.Item1
	for _, x := range l {
		if syms.IsTok(c.g, x.Tok) && c.isItem(x) {
			all = append(all, x)
			c.open(behind, x.Prod, x.Dot, bits.Of(x.Tok))
		}
	}
	for more := true; more; {
		before := slices.Clone(behind)
		for non, toks := range before {
			if toks.Len() == 0 {
				continue
			}
			for _, p := range c.byLeft[non] {
				c.open(behind, p, 0, toks)
			}
		}
		more = !slices.Equal(before, behind)
	}
	for non, toks := range behind {
		for _, p := range c.byLeft[non] {
			for _, t := range toks.List() {
				all = append(all, api.Item1{Prod: p, Tok: t})
			}
		}
	}
	slices.SortFunc(all, func(a, b api.Item1) int {
		return cmp.Or(cmp.Compare(a.Prod, b.Prod), cmp.Compare(a.Dot, b.Dot), cmp.Compare(a.Tok, b.Tok))
	})
	return slices.Compact(all)
}

func (c *closer) isItem(x api.Item1) bool {
	return syms.IsProd(c.g, x.Prod) && x.Dot >= 0 && x.Dot <= len(c.g.Prods[x.Prod].Right)
}

// open adds to the nonterminal behind the dot, if there is one, the tokens
// that begin what stands behind it.
func (c *closer) open(behind []bits.Set, p, dot int, toks bits.Set) {
	sym := items.Next(c.g, api.Item{Prod: p, Dot: dot})
	if sym < api.Non0 {
		return
	}
	non := sym - api.Non0
	behind[non] = bits.Or(behind[non], c.rests[p][dot+1].then(toks))
}
