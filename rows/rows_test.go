package rows

import (
	"fmt"
	"math"
	"testing"

	"yucca/api"
	"yucca/auto"
	"yucca/cand"
	"yucca/look"
	"yucca/sample"
	"yucca/settle"
)

func act(kind, n int) api.Act { return api.Act{Kind: kind, N: n} }

func TestCode(t *testing.T) {
	for a, want := range map[api.Act]int{
		act(api.AShift, 0): 1, act(api.AShift, 19999): 20000, act(api.AReduce, 1): -1, act(api.AReduce, 19999): -19999, act(api.AAccept, 0): 20001, act(api.ANever, 0): 20002, {}: 0,
	} {
		if got := Code(a); got != want || Act(want) != a {
			t.Errorf("%v: %d, %v", a, got, Act(want))
		}
	}
	for _, a := range []api.Act{
		act(api.AShift, -1), act(api.AShift, 20000), act(api.AReduce, 0), act(api.AReduce, -1), act(api.AReduce, 20000), act(api.AAccept, 1), act(api.ANever, -1), act(api.ANone, 3),
		act(5, 0), act(-1, 0), act(api.AShift, math.MaxInt), act(api.AReduce, math.MinInt),
	} {
		if got := Code(a); got != 0 {
			t.Errorf("%v: %d", a, got)
		}
	}
	for _, n := range []int{-20000, 20003, math.MaxInt, math.MinInt} {
		if a := Act(n); a != (api.Act{}) {
			t.Errorf("%d: %v", n, a)
		}
	}
}

func TestActs(t *testing.T) {
	r := func(p int) api.Act { return act(api.AReduce, p) }
	d := api.Dense{Acts: [][]api.Act{
		{r(2), r(1), r(2), r(2), {}, act(api.AShift, 4)},
		{r(2), r(1), {}, r(1), r(2), act(api.AAccept, 0)},
		{act(api.ANever, 0), {}, {}, {}, {}, {}},
		{r(3), r(3), r(3), r(3), r(3), act(api.ANever, 0)},
		{{}, {}, {}, {}, {}, {}},
	}}
	if s := fmt.Sprint(Acts(d)); s != "[{2 [{1 -1} {5 5}]} {1 [{0 -2} {4 -2} {5 20001}]} {-1 [{0 20002}]} {3 [{5 20002}]} {-1 []}]" {
		t.Error(s)
	}
}

func TestGos(t *testing.T) {
	d := api.Dense{Gotos: [][]int{{-1, 3, 5, 7}, {-1, 3, 4, -1}, {-1, 2, -1, -1}, {-1, 2, 5, -1}, {-1, 0, -1, -1}}}
	if s := fmt.Sprint(Gos(d)); s != "[{-1 []} {2 [{0 3} {1 3} {4 0}]} {5 [{1 4}]} {7 []}]" {
		t.Error(s)
	}
	if len(Gos(api.Dense{})) != 0 || len(Acts(api.Dense{})) != 0 {
		t.Error("of nothing")
	}
}

// TestWordsHold looks whether rows have all of the machine, and each Def is
// the one that stands most often.
func TestWordsHold(t *testing.T) {
	for seed := range 300 {
		s := sample.Small(seed)
		g, _ := sample.Grammar(s)
		m, _ := auto.Of(g)
		d, _ := settle.Of(g, m, cand.Of(g, m, look.Of(g, m)))
		for q, row := range Acts(d) {
			times := map[int]int{}
			for tok, a := range d.Acts[q] {
				if a.Kind == api.AReduce {
					times[a.N]++
				}
				if a.Kind == api.ANone || a == act(api.AReduce, row.Def) {
					continue
				}
				if len(row.Pairs) == 0 || row.Pairs[0] != (api.Pair{At: tok, Val: Code(a)}) {
					t.Fatalf("%s: state %d: %v", s, q, row)
				}
				row.Pairs = row.Pairs[1:]
			}
			checkMost(t, s, row, times)
		}
		for non, row := range Gos(d) {
			times := map[int]int{}
			for q := range d.Gotos {
				to := d.Gotos[q][non]
				if to < 0 {
					continue
				}
				times[to]++
				if to == row.Def {
					continue
				}
				if len(row.Pairs) == 0 || row.Pairs[0] != (api.Pair{At: q, Val: to}) {
					t.Fatalf("%s: nonterminal %d: %v", s, non, row)
				}
				row.Pairs = row.Pairs[1:]
			}
			checkMost(t, s, row, times)
		}
	}
}

func checkMost(t *testing.T, s string, row api.Row, times map[int]int) {
	t.Helper()
	if len(row.Pairs) > 0 || (row.Def == -1) != (len(times) == 0) {
		t.Fatalf("%s: %v", s, row)
	}
	for x, n := range times {
		if n > times[row.Def] || n == times[row.Def] && x < row.Def {
			t.Fatalf("%s: %d, not %d", s, row.Def, x)
		}
	}
}
