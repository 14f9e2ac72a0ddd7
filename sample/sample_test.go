package sample

import (
	"testing"

	"yucca/api"
)

func TestTextsHaveNoFault(t *testing.T) {
	for _, s := range Texts() {
		if _, f := Grammar(s); f.Err != api.OK {
			t.Errorf("%s: %v", s, f)
		}
	}
	for seed := range 500 {
		if _, f := Grammar(Small(seed)); f.Err != api.OK {
			t.Errorf("%s: %v", Small(seed), f)
		}
	}
}

func TestSmallOnesAreUnlike(t *testing.T) {
	seen := map[string]int{}
	for seed := range 500 {
		seen[Small(seed)]++
	}
	if len(seen) < 450 || Small(7) != Small(7) {
		t.Error(len(seen))
	}
}

func TestFault(t *testing.T) {
	if _, f := Grammar("%%"); f.Err != api.ErrSyntax {
		t.Error(f)
	}
}
