package pack

import (
	"fmt"
	"math"
	"testing"

	"yucca/api"
	"yucca/auto"
	"yucca/cand"
	"yucca/look"
	"yucca/sample"
	"yucca/settle"
)

func made(t *testing.T, s string) (api.Grammar, api.Dense) {
	t.Helper()
	g, f := sample.Grammar(s)
	if f.Err != api.OK {
		t.Fatalf("%s: %v", s, f)
	}
	m, err := auto.Of(g)
	if err != api.OK {
		t.Fatalf("%s: %d", s, err)
	}
	d, _ := settle.Of(g, m, cand.Of(g, m, look.Of(g, m)))
	return g, d
}

func TestOf(t *testing.T) {
	// '+' 3, 'x' 4; state 0: 'x' to 1, e to 2; 2: '+' to 3; 3: 'x' to 4.
	g, d := made(t, "%%e: e '+' 'x' | 'x'")
	want := "{[-1 2 -1 -1 1] {[0 0 0 1 0] [20001 0 0 4 2 5] [3 0 0 3 1 4]} [-1 2] {[0 0] [] []} [0 1 1] [1 3 1] [{43 3} {120 4}]}"
	if got := fmt.Sprint(Of(g, d)); got != want {
		t.Errorf("%s, not %s", got, want)
	}
}

func TestOthers(t *testing.T) {
	g, d := made(t, "%%e: e '+' 'x' | 'x'")
	x := Of(g, d)
	for _, c := range []struct {
		state, tok int
		want       api.Act
	}{
		{1, 0, api.Act{Kind: api.AReduce, N: 2}}, {1, 4, api.Act{Kind: api.AReduce, N: 2}}, {1, -1, api.Act{Kind: api.AReduce, N: 2}}, {1, math.MaxInt, api.Act{Kind: api.AReduce, N: 2}},
		{0, 3, api.Act{}}, {0, math.MinInt, api.Act{}}, {0, 4, api.Act{Kind: api.AShift, N: 1}}, {2, 0, api.Act{Kind: api.AAccept}},
		{-1, 0, api.Act{}}, {5, 0, api.Act{}}, {math.MaxInt, 3, api.Act{}}, {math.MinInt, 3, api.Act{}},
	} {
		if a := Act(x, c.state, c.tok); a != c.want {
			t.Errorf("%d, %d: %v", c.state, c.tok, a)
		}
	}
	for _, c := range [][3]int{{0, 1, 2}, {4, 1, 2}, {77, 1, 2}, {-1, 1, 2}, {0, 0, -1}, {0, 2, -1}, {0, -1, -1}, {0, math.MaxInt, -1}, {math.MinInt, math.MinInt, -1}} {
		if to := Go(x, c[0], c[1]); to != c[2] {
			t.Errorf("%v: %d", c, to)
		}
	}
}

// TestAgainstDense: Act is Dense's, but where that has ANone and the state a
// Def; Go is Dense's, but where that has -1.
func TestAgainstDense(t *testing.T) {
	texts := sample.Texts()
	for seed := range 400 {
		texts = append(texts, sample.Small(seed))
	}
	for _, s := range texts {
		g, d := made(t, s)
		x := Of(g, d)
		for q, row := range d.Acts {
			for tok, want := range row {
				if want.Kind == api.ANone && x.Def[q] != -1 {
					want = api.Act{Kind: api.AReduce, N: x.Def[q]}
				}
				if a := Act(x, q, tok); a != want {
					t.Fatalf("%s: state %d at %d: %v, not %v", s, q, tok, a, want)
				}
			}
			for non, want := range d.Gotos[q] {
				if want == -1 {
					want = x.GoDef[non]
				}
				if to := Go(x, q, non); to != want {
					t.Fatalf("%s: state %d over %d: %d, not %d", s, q, non, to, want)
				}
			}
		}
		for p, prod := range g.Prods {
			if x.Left[p] != prod.Left || x.Len[p] != len(prod.Right) || len(x.Left) != len(g.Prods) || len(x.Len) != len(g.Prods) {
				t.Fatalf("%s: %v, %v", s, x.Left, x.Len)
			}
		}
	}
}
