package canon

import (
	"fmt"
	"math"
	"slices"
	"strings"
	"testing"

	"yucca/api"
	"yucca/auto"
	"yucca/first"
	"yucca/items"
	"yucca/look"
	"yucca/sample"
	"yucca/vain"
)

func grammar(t *testing.T, s string) api.Grammar {
	t.Helper()
	g, f := sample.Grammar(s)
	if f.Err != api.OK {
		t.Fatalf("%s: %v", s, f)
	}
	return g
}

const pairs = "%%s: c c; c: 'x' c | 'y'" // 'x' 3, 'y' 4, s 1001, c 1002

func TestOf(t *testing.T) {
	for s, want := range map[string]string{
		"%%s: 'x'": "[{[{0 0 0}] [{3 1} {1001 2}]} {[{1 1 0}] []} {[{0 1 0}] []}]",
		"%%s: ;":   "[{[{0 0 0}] [{1001 1}]} {[{0 1 0}] []}]",
		pairs: "[{[{0 0 0}] [{3 1} {4 2} {1001 3} {1002 4}]} {[{2 1 3} {2 1 4}] [{3 1} {4 2} {1002 5}]} {[{3 1 3} {3 1 4}] []} {[{0 1 0}] []} " +
			"{[{1 1 0}] [{3 6} {4 7} {1002 8}]} {[{2 2 3} {2 2 4}] []} {[{2 1 0}] [{3 6} {4 7} {1002 9}]} {[{3 1 0}] []} {[{1 2 0}] []} {[{2 2 0}] []}]",
	} {
		m, err := Of(grammar(t, s))
		if got := fmt.Sprint(m); got != want || err != api.OK {
			t.Errorf("%s: %s, %d", s, got, err)
		}
	}
}

func TestClose(t *testing.T) {
	g := grammar(t, pairs)
	for _, c := range []struct {
		l    []api.Item1
		want string
	}{
		{nil, "[]"},
		{[]api.Item1{{Prod: 0, Dot: 0, Tok: 0}}, "[{0 0 0} {1 0 0} {2 0 3} {2 0 4} {3 0 3} {3 0 4}]"},
		{[]api.Item1{{Prod: 1, Dot: 1, Tok: 2}, {Prod: 3, Dot: 1, Tok: 4}, {Prod: 3, Dot: 1, Tok: 1}, {Prod: 3, Dot: 1, Tok: 4}}, "[{1 1 2} {2 0 2} {3 0 2} {3 1 1} {3 1 4}]"},
		{[]api.Item1{{Prod: 1, Dot: 3, Tok: 0}, {Prod: 1, Dot: -1, Tok: 0}, {Prod: -1, Dot: 0, Tok: 0}, {Prod: 4, Dot: 0, Tok: 0}, {Prod: 1, Dot: 1, Tok: 5}, {Prod: 1, Dot: 1, Tok: -1}, {Prod: 1, Dot: 1, Tok: 1001}, {Prod: 2, Dot: 2, Tok: 1}}, "[{2 2 1}]"},
		{[]api.Item1{{Prod: math.MaxInt, Dot: math.MinInt, Tok: math.MaxInt}}, "[]"},
	} {
		before := slices.Clone(c.l)
		if got := fmt.Sprint(Close(g, c.l)); got != c.want {
			t.Errorf("%v: %s", c.l, got)
		}
		if !slices.Equal(before, c.l) {
			t.Errorf("%v: changed", before)
		}
	}
	g = grammar(t, "%%a: b c 'x' | ; b: a; c: | 'y' | error v; v: v")
	if got := fmt.Sprint(Close(g, []api.Item1{{Prod: 0, Dot: 0, Tok: 0}})); got != "[{0 0 0} {1 0 0} {1 0 1} {1 0 3} {1 0 4} {2 0 0} {2 0 1} {2 0 3} {2 0 4} {3 0 1} {3 0 3} {3 0 4}]" {
		t.Error(got)
	}
}

// closure tells the closure by the words, going on till it stays.
func closure(g api.Grammar, l []api.Item1) []api.Item1 {
	all := slices.Clone(l)
	for i := 0; i < len(all); i++ {
		x := all[i]
		non := items.Next(g, api.Item{Prod: x.Prod, Dot: x.Dot})
		if non < api.Non0 {
			continue
		}
		toks, _ := first.List(g, append(slices.Clone(g.Prods[x.Prod].Right[x.Dot+1:]), x.Tok))
		for p, prod := range g.Prods {
			for _, b := range toks {
				y := api.Item1{Prod: p, Tok: b}
				if api.Non0+prod.Left == non && !slices.Contains(all, y) {
					all = append(all, y)
				}
			}
		}
	}
	slices.SortFunc(all, func(a, b api.Item1) int {
		return (a.Prod-b.Prod)*10000 + (a.Dot-b.Dot)*100 + a.Tok - b.Tok
	})
	return slices.Compact(all)
}

func TestLimit(t *testing.T) {
	// 49 alternatives of eight tokens and one of last tokens, all unlike in
	// their first two tokens.
	long := func(last int) string {
		s := "%%s:"
		for i := range 49 {
			s += fmt.Sprintf(" '%c' '%c'"+strings.Repeat(" 'x'", 6)+" |", "ABCDEFG"[i/7], "abcdefg"[i%7])
		}
		return s + " 'y'" + strings.Repeat(" 'x'", last-1)
	}
	// Beside the first state and the one behind s: 7 behind one letter, 49
	// times 7 from the second one on.
	base := 2 + 7 + 49*7
	g := grammar(t, long(8))
	m, err := Of(g)
	if err != api.OK || len(m) != base+8 {
		t.Error(len(m), err)
	}
	for last, want := range map[int]int{0: 400, 1: 0} {
		s := long(8) + " | 'z' 'x' 'x' 'x' 'x' 'x' 'x' 'x' | 'w' 'x' 'x' 'x' 'x' 'x' 'x' 'x' | 'v' 'x' 'x' 'x' 'x' 'x' 'x' 'x' | 'u' 'x' 'x' 'x' 'x' 'x' 'x' 'x'"
		s += " | 't'" + strings.Repeat(" 'x'", 7) + strings.Repeat(" | 's'", last)
		if base+8+40 != 400 {
			t.Fatal(base)
		}
		m, err := Of(grammar(t, s))
		if len(m) != want || (err == api.OK) != (want > 0) || want == 0 && err != api.ErrLimit {
			t.Error(last, len(m), err)
		}
	}
}

// checkWords looks whether the machine of a source is as its words say.
func checkWords(t *testing.T, s string) bool {
	g := grammar(t, s)
	c, err := Of(g)
	if err != api.OK || len(c) > 60 {
		return false
	}
	found := 1
	for i, state := range c {
		all := closure(g, state.Kernel)
		if !slices.Equal(all, Close(g, state.Kernel)) {
			t.Fatalf("%s: %v: %v", s, state.Kernel, Close(g, state.Kernel))
		}
		rest := state.Moves
		for sym := range api.Non0 + len(g.Nons) {
			var over []api.Item1
			for _, x := range all {
				if items.Next(g, api.Item{Prod: x.Prod, Dot: x.Dot}) == sym {
					over = append(over, api.Item1{Prod: x.Prod, Dot: x.Dot + 1, Tok: x.Tok})
				}
			}
			if len(over) == 0 {
				continue
			}
			if len(rest) == 0 || rest[0].Sym != sym || !slices.Equal(c[rest[0].To].Kernel, over) || rest[0].To > found {
				t.Fatalf("%s: state %d over %d", s, i, sym)
			}
			found = max(found, rest[0].To+1)
			rest = rest[1:]
		}
		for j := range i {
			if slices.Equal(c[j].Kernel, state.Kernel) {
				t.Fatalf("%s: state %d stands twice", s, i)
			}
		}
	}
	return found == len(c)
}

func TestWordsHold(t *testing.T) {
	n := 0
	for _, s := range sample.Texts() {
		checkWords(t, s)
	}
	for seed := range 120 {
		if checkWords(t, sample.Small(seed)) {
			n++
		}
	}
	if n < 50 {
		t.Errorf("%d alone", n)
	}
}

// TestMergeIsLook is T5.
func TestMergeIsLook(t *testing.T) {
	texts := sample.Texts()
	for seed := range 800 {
		texts = append(texts, sample.Small(seed))
	}
	n := 0
	for _, s := range texts {
		g := grammar(t, s)
		m, err := auto.Of(g)
		c, err1 := Of(g)
		if err != api.OK || err1 != api.OK || len(vain.Vain(g)) > 0 {
			continue
		}
		n++
		if got, want := fmt.Sprint(Merge(g, m, c)), fmt.Sprint(look.Of(g, m)); got != want {
			t.Fatalf("%s: %s, not %s", s, got, want)
		}
	}
	if n < 300 {
		t.Errorf("%d alone", n)
	}
}

// TestMergeByItsWords looks at grammars with vain nonterminals, too.
func TestMergeByItsWords(t *testing.T) {
	for seed := range 200 {
		s := sample.Small(seed)
		g := grammar(t, s)
		m, err := auto.Of(g)
		c, err1 := Of(g)
		if err != api.OK || err1 != api.OK || len(c) > 60 {
			continue
		}
		var want []api.Look
		for q, state := range m {
			for p := 1; p < len(g.Prods); p++ {
				end := api.Item{Prod: p, Dot: len(g.Prods[p].Right)}
				if !slices.Contains(items.Close(g, state.Kernel), end) {
					continue
				}
				toks := []int{}
				for _, one := range c {
					if auto.Find([]api.State{state}, core(one.Kernel)) != 0 {
						continue
					}
					for _, x := range closure(g, one.Kernel) {
						if x.Prod == p && x.Dot == end.Dot {
							toks = append(toks, x.Tok)
						}
					}
				}
				slices.Sort(toks)
				want = append(want, api.Look{State: q, Prod: p, Toks: slices.Compact(toks)})
			}
		}
		if got := Merge(g, m, c); fmt.Sprint(got) != fmt.Sprint(want) {
			t.Fatalf("%s: %v, not %v", s, got, want)
		}
	}
}
