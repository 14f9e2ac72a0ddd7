package bits

import (
	"math"
	"slices"
	"testing"
)

func TestOfPassesOthersOver(t *testing.T) {
	s := Of(5, 1, 2000, 1, -1, 1024, 1023, 0, 63, 64, math.MaxInt, math.MinInt)
	want := []int{0, 1, 5, 63, 64, 1023}
	if !slices.Equal(s.List(), want) || s.Len() != len(want) {
		t.Errorf("%v, %d", s.List(), s.Len())
	}
	for _, i := range []int{2, 62, 65, 1022, 1024, -1, -64, math.MinInt, math.MaxInt} {
		if s.Has(i) {
			t.Errorf("has %d", i)
		}
	}
	for _, i := range want {
		if !s.Has(i) {
			t.Errorf("hasn't %d", i)
		}
	}
}

func TestZeroSetIsEmpty(t *testing.T) {
	var s Set
	if s.Len() != 0 || len(s.List()) != 0 || s.Has(0) || !Eq(s, Of()) {
		t.Error("not empty")
	}
}

func TestTwoSets(t *testing.T) {
	a, b := Of(1, 2, 64, 100), Of(2, 64, 1000)
	cases := []struct {
		got  Set
		want []int
	}{
		{Or(a, b), []int{1, 2, 64, 100, 1000}},
		{And(a, b), []int{2, 64}},
		{Without(a, b), []int{1, 100}},
		{Without(b, a), []int{1000}},
		{Or(a, Set{}), a.List()},
		{And(a, Set{}), nil},
		{Without(a, a), nil},
		{a, []int{1, 2, 64, 100}},
		{b, []int{2, 64, 1000}},
	}
	for i, c := range cases {
		if !slices.Equal(c.got.List(), c.want) {
			t.Errorf("%d: %v", i, c.got.List())
		}
	}
	if !Eq(Of(1, 2), Of(2, 1, 2, 4000)) || Eq(Of(63), Of(64)) || Eq(Of(1), Of(1, 2)) || Eq(Of(0), Set{}) {
		t.Error("Eq")
	}
}

func TestListIsNew(t *testing.T) {
	s := Of(3, 7)
	l := s.List()
	l[0] = 9
	if !slices.Equal(s.List(), []int{3, 7}) {
		t.Error("a told list changes the set")
	}
}

func TestPairsAreCountedInTheirOrder(t *testing.T) {
	k := 0
	for sum := range 2 * 999 {
		for i := 0; i <= sum; i++ {
			j := sum - i
			a, b := Unpair(k)
			if i > 999 || j > 999 {
				if a != -1 || b != -1 {
					t.Fatalf("%d: %d, %d", k, a, b)
				}
			} else if Pair(i, j) != k || a != i || b != j {
				t.Fatalf("(%d, %d): %d, back %d, %d", i, j, Pair(i, j), a, b)
			}
			k++
		}
	}
}

func TestPairEdges(t *testing.T) {
	if Pair(1, 1) != 4 || Pair(999, 999) != 1998000 {
		t.Error("numbers")
	}
	for _, c := range [][2]int{{-1, 0}, {0, -1}, {1000, 0}, {0, 1000}, {math.MaxInt, math.MaxInt}, {math.MinInt, 1}} {
		if Pair(c[0], c[1]) != -1 {
			t.Errorf("%v", c)
		}
	}
	for _, k := range []int{-1, 500500, 1997000, 1998001, math.MinInt, math.MaxInt} {
		if i, j := Unpair(k); i != -1 || j != -1 {
			t.Errorf("%d: %d, %d", k, i, j)
		}
	}
	if i, j := Unpair(1998000); i != 999 || j != 999 {
		t.Errorf("%d, %d", i, j)
	}
}
