package dense

import (
	"fmt"
	"math"
	"reflect"
	"slices"
	"testing"

	"yucca/api"
	"yucca/auto"
	"yucca/cand"
	"yucca/look"
	"yucca/many"
	"yucca/sample"
	"yucca/settle"
	"yucca/tree"
)

type made struct {
	g       api.Grammar
	d       api.Dense
	clashes []api.Clash
	raw     int
}

func make1(t *testing.T, s string) made {
	t.Helper()
	g, f := sample.Grammar(s)
	if f.Err != api.OK {
		t.Fatalf("%s: %v", s, f)
	}
	m, _ := auto.Of(g)
	cells := cand.Of(g, m, look.Of(g, m))
	d, l := settle.Of(g, m, cells)
	return made{g, d, l, cand.Raw(cells)}
}

const most = math.MaxInt

func TestRun(t *testing.T) {
	const sums = "%%e: e '+' 'x' | 'x'" // '+' 3, 'x' 4
	const list = "%%l: l 'x' | ; "      // 'x' 3
	for _, c := range []struct {
		s            string
		toks         []int
		depth, steps int
		want         string
	}{
		{sums, []int{4, 3, 4}, most, most, "{1 3 5 3 [2 1]}"},
		{sums, []int{4, 3, 4}, 3, 5, "{1 3 5 3 [2 1]}"},
		{sums, []int{4, 3, 4}, 3, 4, "{3 3 4 3 [2]}"},
		{sums, []int{4, 3, 4}, 2, 5, "{3 2 3 2 [2]}"},
		{sums, []int{4}, 0, 5, "{3 0 0 0 []}"},
		{sums, []int{4}, 5, 0, "{3 0 0 0 []}"},
		{sums, []int{4}, -5, 5, "{3 0 0 0 []}"},
		{sums, []int{4}, 5, math.MinInt, "{3 0 0 0 []}"},
		{sums, []int{3}, 0, 0, "{2 0 0 0 []}"},
		{sums, nil, 0, 0, "{2 0 0 0 []}"},
		{sums, []int{4, 3}, 9, 9, "{2 2 3 2 [2]}"},
		{sums, []int{4, 4}, 9, 9, "{2 1 1 1 []}"},
		{sums, []int{4, 0, 99}, 9, 9, "{1 1 2 1 [2]}"},
		{sums, []int{4, 3, 0}, 9, 9, "{2 2 3 2 [2]}"},
		{sums, []int{99}, 9, 9, "{2 0 0 0 []}"},
		{sums, []int{4, math.MinInt}, 9, 9, "{2 1 1 1 []}"},
		{sums, []int{4, 1001}, 9, 9, "{2 1 1 1 []}"},
		{list, nil, 9, 9, "{1 0 1 1 [2]}"},
		{list, nil, 0, 9, "{3 0 0 0 []}"},
		{list, []int{3, 3, 0, 3}, 2, 9, "{1 2 5 2 [2 1 1]}"},
		{"%%s: error 'x'", []int{1, 3}, 9, 9, "{2 0 0 0 []}"},
		{"%%s: 'x' | s error", []int{3, 1}, 9, 9, "{2 1 1 1 []}"},
		{"%nonassoc '<' %%e: e '<' e | 'x'", []int{4, 3, 4, 3, 4}, 9, 9, "{2 3 5 3 [2 2]}"},
	} {
		m := make1(t, c.s)
		before := slices.Clone(c.toks)
		if got := fmt.Sprint(Run(m.g, m.d, c.toks, c.depth, c.steps)); got != c.want {
			t.Errorf("%s: %v: %s, not %s", c.s, c.toks, got, c.want)
		}
		if !slices.Equal(before, c.toks) {
			t.Errorf("%v: changed", before)
		}
	}
}

func TestGreatestLimits(t *testing.T) {
	// Ahead of 'x' the empty nonterminal is reduced again and again.
	m := make1(t, "%left 'x' %start s %%a: %prec 'x'; s: a s | 'x'")
	r := Run(m.g, m.d, []int{3}, most, most)
	if r.Kind != api.KLimit || r.At != 0 || r.Deep != api.MaxDepth || r.Steps != api.MaxDepth || len(r.Prods) != api.MaxDepth {
		t.Error(r.Kind, r.Deep, r.Steps)
	}
	m = make1(t, "%%s: 'x' s | ")
	long := slices.Repeat([]int{3}, api.MaxDepth+5)
	if r = Run(m.g, m.d, long, most, most); r.Kind != api.KLimit || r.Deep != api.MaxDepth || r.At != api.MaxDepth {
		t.Error(r.Kind, r.Deep, r.At)
	}
	m = make1(t, "%%s: s 'x' | ")
	long = slices.Repeat([]int{3}, api.MaxSteps)
	if r = Run(m.g, m.d, long, most, most); r.Kind != api.KLimit || r.Deep != 2 || r.Steps != api.MaxSteps || r.At != api.MaxSteps/2 {
		t.Error(r.Kind, r.Deep, r.Steps, r.At)
	}
}

// lists tells lists of up to n tokens of a grammar.
func lists(g api.Grammar, n int) [][]int {
	all := [][]int{nil}
	for i := 0; i < len(all) && len(all[i]) < n; i++ {
		for tok := 3; tok < len(g.Toks); tok++ {
			all = append(all, append(slices.Clone(all[i]), tok))
		}
	}
	return all
}

// TestAcceptanceIsATree is T2.
func TestAcceptanceIsATree(t *testing.T) {
	texts := sample.Texts()
	for seed := range 400 {
		texts = append(texts, sample.Small(seed))
	}
	accepted := 0
	for _, s := range texts {
		m := make1(t, s)
		for _, toks := range lists(m.g, 4) {
			r := Run(m.g, m.d, toks, 500, 1000)
			count := many.Count(m.g, m.g.Prods[0].Right[0], toks)
			if r.Kind == api.KAccept {
				accepted++
				x, ok := tree.Build(m.g, r.Prods, toks[:r.At])
				if !ok || !reflect.DeepEqual(tree.Prods(x), r.Prods) || r.At != len(toks) || count == 0 {
					t.Fatalf("%s: %v: %v", s, toks, r)
				}
			}
			if m.raw == 0 && (r.Kind == api.KAccept) != (count == 1) && r.Kind != api.KLimit || m.raw == 0 && count == 2 {
				t.Fatalf("%s: %v: %v, %d trees", s, toks, r, count)
			}
			if r.Kind == api.KLimit && r.Steps < 500 {
				t.Fatalf("%s: %v: %v", s, toks, r)
			}
		}
	}
	if accepted < 500 {
		t.Errorf("%d alone", accepted)
	}
}

func TestLimitsAreJust(t *testing.T) {
	for seed := range 300 {
		s := sample.Small(seed)
		m := make1(t, s)
		for _, toks := range lists(m.g, 3) {
			r := Run(m.g, m.d, toks, 100, 200)
			if r.Kind == api.KLimit {
				continue
			}
			if again := Run(m.g, m.d, toks, r.Deep, r.Steps); !reflect.DeepEqual(again, r) {
				t.Fatalf("%s: %v: %v, not %v", s, toks, again, r)
			}
			if r.Steps > 0 {
				if less := Run(m.g, m.d, toks, r.Deep, r.Steps-1); less.Kind != api.KLimit || less.Steps != r.Steps-1 {
					t.Fatalf("%s: %v: %v", s, toks, less)
				}
			}
			if r.Deep > 0 {
				if less := Run(m.g, m.d, toks, r.Deep-1, r.Steps); less.Kind != api.KLimit || less.Deep != r.Deep-1 {
					t.Fatalf("%s: %v: %v", s, toks, less)
				}
			}
		}
	}
}
