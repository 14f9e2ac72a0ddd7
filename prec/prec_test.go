package prec

import (
	"math"
	"testing"

	"yucca/api"
	"yucca/gram"
	"yucca/read"
)

func grammar(t *testing.T, s string) api.Grammar {
	t.Helper()
	x, f := read.Read(s)
	if f.Err != api.OK {
		t.Fatal(f)
	}
	g, f := gram.Of(x)
	if f.Err != api.OK {
		t.Fatal(f)
	}
	return g
}

// Tokens from 3 on: '+' 3, '-' 4, '*' 5, '=' 6, '<' 7, A 8, 'x' 9.
const levels = "%left '+' '-' %left '*' %right '=' %nonassoc '<' %token A %%" +
	"e: e '+' e | e '*' e | e '=' e | e '<' e | e A e | 'x' e | '-' e %prec '*' | e | %prec '<' | e '*' {} e '-' {} | error"

func TestRule(t *testing.T) {
	g := grammar(t, levels)
	want := [][2]int{{0, 0}, {1, api.ALeft}, {2, api.ALeft}, {3, api.ARight}, {4, api.ANon}, {0, 0}, {0, 0}, {2, api.ALeft}, {0, 0}, {4, api.ANon}, {0, 0}, {1, api.ALeft}, {0, 0}}
	if len(want) != len(g.Prods) {
		t.Fatal(len(g.Prods))
	}
	for p, w := range want {
		if level, assoc := Rule(g, p); level != w[0] || assoc != w[1] {
			t.Errorf("%d: %d, %d", p, level, assoc)
		}
	}
	for _, p := range []int{-1, len(g.Prods), math.MaxInt, math.MinInt} {
		if level, assoc := Rule(g, p); level != 0 || assoc != 0 {
			t.Errorf("%d: %d, %d", p, level, assoc)
		}
	}
}

func TestDecide(t *testing.T) {
	g := grammar(t, levels)
	for _, c := range [][3]int{
		{2, 3, api.VReduce}, {1, 5, api.VShift}, {1, 3, api.VReduce}, {1, 4, api.VReduce}, {3, 6, api.VShift}, {4, 7, api.VNever},
		{4, 3, api.VReduce}, {3, 7, api.VShift}, {7, 5, api.VReduce}, {7, 3, api.VReduce}, {9, 7, api.VNever},
		{1, 8, api.VOpen}, {1, 9, api.VOpen}, {5, 3, api.VOpen}, {8, 3, api.VOpen}, {0, 3, api.VOpen}, {1, 0, api.VOpen}, {1, 1, api.VOpen}, {1, 2, api.VOpen},
		{1, -1, api.VOpen}, {1, 10, api.VOpen}, {1, api.Non0, api.VOpen}, {-1, 3, api.VOpen}, {13, 3, api.VOpen}, {math.MaxInt, math.MinInt, api.VOpen},
	} {
		if v := Decide(g, c[0], c[1]); v != c[2] {
			t.Errorf("%v: %d", c, v)
		}
	}
	g = grammar(t, "%right error %left 'x' %%e: e error e | 'x'")
	if Decide(g, 1, api.TError) != api.VShift || Decide(g, 2, api.TError) != api.VReduce {
		t.Error("error has a level as declared")
	}
}
