package sample

import (
	"testing"

	"yucca/api"
)

func TestTextsHaveNoFault(t *testing.T) {
	for _, s := range Texts() {
		if _, f := Grammar(s); f.Err != api.OK {
			t.Errorf("%s: %v", s, f)
		}
	}
	for seed := range 500 {
		if _, f := Grammar(Small(seed)); f.Err != api.OK {
			t.Errorf("%s: %v", Small(seed), f)
		}
	}
}

func TestSmallOnesAreUnlike(t *testing.T) {
	seen := map[string]int{}
	for seed := range 500 {
		seen[Small(seed)]++
	}
	if len(seen) < 450 || Small(7) != Small(7) {
		t.Error(len(seen))
	}
}

func TestFault(t *testing.T) {
	if _, f := Grammar("%%"); f.Err != api.ErrSyntax {
		t.Error(f)
	}
}

func TestTree(t *testing.T) {
	for seed := range 200 {
		g, _ := Grammar(Small(seed))
		x, ok := Tree(g, seed)
		if !ok {
			continue
		}
		if start := g.Prods[0].Right[0]; x.Sym != start || x.Prod < 1 || len(x.Kids) != len(g.Prods[x.Prod].Right) {
			t.Errorf("%s: %v", Small(seed), x)
		}
	}
	g, _ := Grammar("%%a: a 'x'")
	if x, ok := Tree(g, 1); ok || x.Sym != 0 || x.Kids != nil {
		t.Error(x)
	}
}
