package many

import (
	"testing"

	"yucca/api"
	"yucca/sample"
	"yucca/tree"
)

func grammar(t *testing.T, s string) api.Grammar {
	t.Helper()
	g, f := sample.Grammar(s)
	if f.Err != api.OK {
		t.Fatalf("%s: %v", s, f)
	}
	return g
}

func TestCount(t *testing.T) {
	sums := "%%e: e '+' e | 'x'" // '+' 3, 'x' 4
	for _, c := range []struct {
		s    string
		sym  int
		w    []int
		want int
	}{
		{sums, 1001, []int{4, 3, 4, 3, 4}, 2}, {sums, 1001, []int{4, 3, 4}, 1}, {sums, 1001, []int{4, 4}, 0}, {sums, 1001, nil, 0}, {sums, 1001, []int{4}, 1},
		{sums, 1000, []int{4}, 1}, {sums, 4, []int{4}, 1}, {sums, 3, []int{4}, 0}, {sums, 4, []int{4, 4}, 0}, {sums, 4, nil, 0}, {sums, 0, []int{0}, 1}, {sums, 1, []int{1}, 1},
		{sums, 5, []int{5}, 0}, {sums, -1, []int{-1}, 0}, {sums, 1002, []int{4}, 0}, {sums, 999, []int{999}, 0}, {sums, 1001, []int{1001}, 0}, {sums, 1001, []int{-7}, 0},
		{"%%a: a | 'x'", 1001, []int{3}, 2}, {"%%a: a | 'x'", 1001, nil, 0}, {"%%a: b; b: a", 1001, nil, 0}, {"%%a: b | 'x'; b: a 'y'", 1001, []int{3, 4}, 1},
		{"%%a: |", 1001, nil, 2}, {"%%a: ", 1001, nil, 1}, {"%%a: a a | ", 1001, nil, 2}, {"%%a: b b 'x'; b: ", 1001, []int{3}, 1}, {"%%a: b b 'x'; b: |'x'", 1001, []int{3, 3}, 2},
		{"%%a: b c; b: c | 'y'; c: b | ;", 1001, nil, 2}, {"%%a: 'x' c; c: c | ;", 1001, []int{3}, 2}, {"%%a: 'x' c | 'x'; c: c", 1001, []int{3}, 1},
		{"%%a: error", 1001, []int{1}, 1}, {"%%a: {} 'x' {}", 1002, nil, 1},
	} {
		if got := Count(grammar(t, c.s), c.sym, c.w); got != c.want {
			t.Errorf("%s: %d of %v: %d, not %d", c.s, c.sym, c.w, got, c.want)
		}
	}
}

func repeat(n int, l ...int) []int {
	var all []int
	for range n {
		all = append(all, l...)
	}
	return all
}

func TestLongest(t *testing.T) {
	g := grammar(t, "%%s: s s | 'x' | ; l: 'x' l | 'y'")
	for _, c := range []struct {
		sym  int
		w    []int
		want int
	}{
		{1001, repeat(24, 3), 2}, {1001, repeat(25, 3), -1}, {1, repeat(25, 3), -1}, {-5, repeat(25, 3), -1}, {-5, repeat(24, 3), 0},
		{1002, append(repeat(23, 3), 4), 1}, {1002, repeat(24, 3), 0}, {1002, append(repeat(24, 3), 4), -1},
	} {
		if got := Count(g, c.sym, c.w); got != c.want {
			t.Errorf("%d of %d: %d", c.sym, len(c.w), got)
		}
	}
}

const longest = 3

// yields tells of each nonterminal the lists of up to three tokens that come
// of it by trees up to a great height, with how many trees there are.
func yields(g api.Grammar) []map[string]int {
	now := make([]map[string]int, len(g.Nons))
	for range 40 {
		next := make([]map[string]int, len(g.Nons))
		for i := range next {
			next[i] = map[string]int{}
		}
		for _, p := range g.Prods {
			all := map[string]int{"": 1}
			for _, s := range p.Right {
				of := map[string]int{string([]byte{byte(s)}): 1}
				if s >= api.Non0 {
					of = now[s-api.Non0]
				}
				longer := map[string]int{}
				for a, n := range all {
					for b, m := range of {
						if len(a+b) <= longest {
							longer[a+b] = min(2, longer[a+b]+n*m)
						}
					}
				}
				all = longer
			}
			for a, n := range all {
				next[p.Left][a] = min(2, next[p.Left][a]+n)
			}
		}
		now = next
	}
	return now
}

func TestAgainstTrying(t *testing.T) {
	for seed := range 150 {
		g := grammar(t, sample.Small(seed))
		want := yields(g)
		toks := []int{1}
		for i := 3; i < len(g.Toks); i++ {
			toks = append(toks, i)
		}
		lists := [][]int{nil}
		for from := 0; from < len(lists) && len(lists[from]) < longest; from++ {
			for _, x := range toks {
				lists = append(lists, append(repeat(1, lists[from]...), x))
			}
		}
		for _, w := range lists {
			key := ""
			for _, x := range w {
				key += string([]byte{byte(x)})
			}
			for i := range g.Nons {
				if got := Count(g, api.Non0+i, w); got != want[i][key] {
					t.Fatalf("%s: %d of %v: %d, not %d", sample.Small(seed), i, w, got, want[i][key])
				}
			}
		}
	}
}

func TestOfATreeThereIsOne(t *testing.T) {
	for seed := range 400 {
		g := grammar(t, sample.Small(seed))
		x, ok := sample.Tree(g, seed)
		if w := tree.Yield(x); ok && len(w) <= maxTokens && Count(g, x.Sym, w) < 1 {
			t.Errorf("%s: %s", sample.Small(seed), tree.Text(g, x))
		}
	}
}
