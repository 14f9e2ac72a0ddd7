package syms_test

import (
	"fmt"
	"math"
	"testing"

	"yucca/sample"
	"yucca/syms"
)

func TestSymbols(t *testing.T) {
	g, _ := sample.Grammar("%%a: 'x' b | b; b: | a;")
	for s, want := range map[int][2]bool{0: {true, false}, 3: {true, false}, 4: {}, -1: {}, 999: {}, 1000: {false, true}, 1002: {false, true}, 1003: {}, math.MaxInt: {}, math.MinInt: {}} {
		if syms.IsTok(g, s) != want[0] || syms.IsNon(g, s) != want[1] {
			t.Error(s)
		}
	}
	for p, want := range map[int]bool{-1: false, 0: true, 4: true, 5: false} {
		if syms.IsProd(g, p) != want {
			t.Error(p)
		}
	}
	if s := fmt.Sprint(syms.ByLeft(g)); s != "[[0] [1 2] [3 4]]" {
		t.Error(s)
	}
}
