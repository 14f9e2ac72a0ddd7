package cand

import (
	"fmt"
	"slices"
	"strings"
	"testing"

	"yucca/api"
	"yucca/auto"
	"yucca/gram"
	"yucca/look"
	"yucca/sample"
)

func made(t *testing.T, s string) (api.Grammar, []api.State, []api.Look) {
	t.Helper()
	g, f := sample.Grammar(s)
	if f.Err != api.OK {
		t.Fatalf("%s: %v", s, f)
	}
	m, _ := auto.Of(g)
	return g, m, look.Of(g, m)
}

func show(g api.Grammar, cells []api.Cell) string {
	var l []string
	for _, c := range cells {
		s := fmt.Sprintf("%d %s", c.State, gram.Name(g, c.Tok))
		if c.Shift != -1 {
			s += fmt.Sprintf(" s%d", c.Shift)
		}
		if c.Accept {
			s += " acc"
		}
		for _, p := range c.Prods {
			s += fmt.Sprintf(" r%d", p)
		}
		l = append(l, s)
	}
	return strings.Join(l, ", ")
}

func TestOf(t *testing.T) {
	for s, want := range map[string]string{
		"%%s: 'x'":                     "0 'x' s1, 1 $end r1, 2 $end acc",
		"%%e: e '+' e | 'x'":           "0 'x' s1, 1 $end r2, 1 '+' r2, 2 $end acc, 2 '+' s3, 3 'x' s1, 4 $end r1, 4 '+' s3 r1",
		"%%s: a | b | c; a: ; b: ; c:": "0 $end r4 r5 r6, 1 $end acc, 2 $end r1, 3 $end r2, 4 $end r3",
		"%%s: s | 'x' error":           "0 'x' s1, 1 error s3, 2 $end acc r1, 3 $end r2",
		"%%s: v; v: v 'x'":             "1 $end acc, 2 $end r1, 2 'x' s3, 3 $end r2, 3 'x' r2",
	} {
		g, m, l := made(t, s)
		if got := show(g, Of(g, m, l)); got != want {
			t.Errorf("%s: %s, not %s", s, got, want)
		}
	}
}

func TestCount(t *testing.T) {
	cells := []api.Cell{
		{Shift: -1}, {Shift: 0}, {Shift: 3, Prods: []int{1}}, {Shift: -1, Prods: []int{1, 2, 3}}, {Shift: -1, Accept: true}, {Shift: -1, Accept: true, Prods: []int{4}},
		{Shift: 1, Accept: true, Prods: []int{4, 4}},
	}
	for i, want := range []int{0, 1, 2, 3, 1, 2, 4} {
		if got := Things(cells[i]); got != want {
			t.Errorf("%d: %d", i, got)
		}
	}
	if Raw(cells) != 4 || Raw(nil) != 0 || Raw(cells[:2]) != 0 {
		t.Error(Raw(cells))
	}
	g, m, l := made(t, "%%e: e '+' e | 'x'")
	if got := Raw(Of(g, m, l)); got != 1 {
		t.Error(got)
	}
	g, m, l = made(t, "%left '+' %%e: e '+' e | 'x'")
	if got := Raw(Of(g, m, l)); got != 1 {
		t.Error("levels don't count here")
	}
}

func TestWordsHold(t *testing.T) {
	for seed := range 300 {
		s := sample.Small(seed)
		g, m, l := made(t, s)
		var want []string
		for q, state := range m {
			for tok := range g.Toks {
				c := api.Cell{State: q, Tok: tok, Shift: -1}
				for _, v := range state.Moves {
					if v.Sym == tok {
						c.Shift = v.To
					}
				}
				c.Accept = tok == 0 && slices.Contains(state.Kernel, api.Item{Dot: 1})
				for _, x := range l {
					if x.State == q && slices.Contains(x.Toks, tok) {
						c.Prods = append(c.Prods, x.Prod)
					}
				}
				if c.Shift >= 0 || c.Accept || len(c.Prods) > 0 {
					want = append(want, fmt.Sprint(c))
				}
			}
		}
		var got []string
		for _, c := range Of(g, m, l) {
			got = append(got, fmt.Sprint(c))
		}
		if !slices.Equal(got, want) {
			t.Fatalf("%s: %v, not %v", s, got, want)
		}
	}
}

func TestListsAreNew(t *testing.T) {
	g, m, l := made(t, "%%s: a | b | c; a: ; b: ; c:")
	before := fmt.Sprint(l)
	cells := Of(g, m, l)
	for i := range cells {
		_ = append(cells[i].Prods, 99)
		for j := range cells[i].Prods {
			cells[i].Prods[j] = 98
		}
	}
	if fmt.Sprint(l) != before {
		t.Error("the looks change")
	}
}
