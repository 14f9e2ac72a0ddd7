package nums

import (
	"fmt"
	"math"
	"testing"

	"yucca/api"
	"yucca/sample"
)

func TestOf(t *testing.T) {
	for s, want := range map[string]string{
		"%token A %%a: '+' A":                       "[{43 4} {57346 3}]",
		"%token A 50000 B C 1 '+' D %%a: '\\n' 'x'": "[{1 5} {10 8} {43 6} {120 9} {50000 3} {57346 4} {57347 7}]",
		"%%a: error":                                "[]",
	} {
		g, f := sample.Grammar(s)
		if got := fmt.Sprint(Of(g)); got != want || f.Err != api.OK {
			t.Errorf("%s: %s, %v", s, got, f)
		}
	}
}

func TestTok(t *testing.T) {
	g, _ := sample.Grammar("%token A 50000 B C 1 '+' D %%a: '\\n' 'x'")
	l := Of(g)
	for n, want := range map[int]int{
		0: api.TEnd, -1: api.TEnd, math.MinInt: api.TEnd, 1: 5, 10: 8, 43: 6, 120: 9, 50000: 3, 57346: 4, 57347: 7,
		2: api.TNone, 57348: api.TNone, 3: api.TNone, math.MaxInt: api.TNone, 119: api.TNone,
	} {
		if got := Tok(l, n); got != want {
			t.Errorf("%d: %d", n, got)
		}
	}
	if Tok(nil, 43) != api.TNone || Tok(nil, 0) != api.TEnd {
		t.Error("of none")
	}
}
