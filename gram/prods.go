package gram

import (
	"slices"
	"strconv"

	"yucca/api"
)

// grammar tells the grammar of a table that has gone through all passes.
func (t *table) grammar() api.Grammar {
	g := api.Grammar{Toks: t.toks, Pro: t.src.Pro, Tail: t.src.Tail}
	for i := range t.nons.Len() {
		name, _ := t.nons.At(i)
		g.Nons = append(g.Nons, api.Non{Name: name, Tag: t.typeOf(name)})
	}
	start := t.start
	if start == "" {
		start = t.src.Rules[0].Left
	}
	g.Prods = append(g.Prods, api.Prod{Right: []int{t.non(start)}, Prec: -1})
	inner := 0
	for _, r := range t.src.Rules {
		left := t.nons.Find(r.Left)
		for _, a := range r.Alts {
			inner = t.alt(&g, left, a, inner)
		}
	}
	return g
}

func (t *table) typeOf(name string) string {
	i := t.types.Find(name)
	if i < 0 {
		return ""
	}
	return t.tags[i]
}

// non tells the symbol of a nonterminal.
func (t *table) non(name string) int { return api.Non0 + t.nons.Find(name) }

// sym tells the symbol that is written so: a token, or a nonterminal.
func (t *table) sym(s api.Sym) int {
	if i := t.tokens.Find(key(s)); i >= 0 {
		return i
	}
	return t.non(s.Name)
}

// alt adds the productions of an alternative, those of its inner actions
// ahead; inner: how many inner actions there were ahead of it. It tells how
// many there are behind it.
func (t *table) alt(g *api.Grammar, left int, a api.Alt, inner int) int {
	p := api.Prod{Left: left, At: a.At}
	for i, part := range a.Parts {
		switch {
		case part.Code == "":
			p.Right = append(p.Right, t.sym(part.Sym))
		case i == len(a.Parts)-1:
			p.Code = part.Code
			p.At = part.At
		default:
			inner++
			non := len(g.Nons)
			g.Nons = append(g.Nons, api.Non{Name: "@" + strconv.Itoa(inner)})
			g.Prods = append(g.Prods, api.Prod{Left: non, Prec: -1, Code: part.Code, Args: slices.Clone(p.Right), At: part.At})
			p.Right = append(p.Right, api.Non0+non)
		}
	}
	p.Args = slices.Clone(p.Right)
	p.Prec = t.prec(a, p.Right)
	g.Prods = append(g.Prods, p)
	return inner
}

// prec tells the token whose level an alternative has; -1: none.
func (t *table) prec(a api.Alt, right []int) int {
	if hasPrec(a) {
		return t.sym(a.Prec)
	}
	for _, s := range slices.Backward(right) {
		if s < api.Non0 {
			return s
		}
	}
	return -1
}
