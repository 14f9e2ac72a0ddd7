package graph

import (
	"fmt"
	"math"
	"math/rand"
	"testing"

	"yucca/api"
)

func TestExample(t *testing.T) {
	rel := [][]int{{1}, {0}, {0}}
	if s := fmt.Sprint(Close(rel, [][]int{{5}, {6}, {}})); s != "[[5 6] [5 6] [5 6]]" {
		t.Error(s)
	}
	if s := fmt.Sprint(Comps(rel)); s != "[[0 1] [2]]" {
		t.Error(s)
	}
}

func TestOthersArePassedOver(t *testing.T) {
	rel := [][]int{{2, 2, -1, 3, math.MaxInt, math.MinInt}, {1}, nil}
	sets := [][]int{{7, 7, 1024, -1, 0, 1023, math.MaxInt}}
	if s := fmt.Sprint(Close(rel, sets)); s != "[[0 7 1023] [] []]" {
		t.Error(s)
	}
	if s := fmt.Sprint(Close([][]int{nil}, [][]int{{1}, {2}})); s != "[[1]]" {
		t.Error(s)
	}
	if s := fmt.Sprint(Comps(rel)); s != "[[0] [1] [2]]" {
		t.Error(s)
	}
	if len(Close(nil, [][]int{{1}})) != 0 || len(Comps(nil)) != 0 {
		t.Error("of no node")
	}
}

// ring tells a relation of n nodes that go round, the last one to the first.
func ring(n int) [][]int {
	rel := make([][]int, n)
	for i := range rel {
		rel[i] = []int{(i + 1) % n}
	}
	return rel
}

func TestGreatOnes(t *testing.T) {
	rel := ring(api.MaxNodes)
	sets := make([][]int, api.MaxNodes)
	sets[17] = []int{3}
	got := Close(rel, sets)
	if len(got) != api.MaxNodes || fmt.Sprint(got[0], got[3999]) != "[3] [3]" {
		t.Error("ring")
	}
	if c := Comps(rel); len(c) != 1 || len(c[0]) != api.MaxNodes || c[0][3999] != 3999 {
		t.Error("ring's component")
	}
	rel[api.MaxNodes-1] = nil
	if c := Comps(rel); len(c) != api.MaxNodes || c[3999][0] != 3999 {
		t.Error("a chain's components")
	}
	if got = Close(rel, sets); len(got[17]) != 1 || len(got[18]) != 0 {
		t.Error("chain")
	}
	if Close(ring(api.MaxNodes+1), nil) != nil || Comps(ring(api.MaxNodes+1)) != nil {
		t.Error("too many nodes")
	}
}

func TestToldListsAreNew(t *testing.T) {
	sets := [][]int{{1, 2}, nil}
	got := Close([][]int{{1}, {0}}, sets)
	got[0][0] = 9
	_ = append(got[0], 8)
	if fmt.Sprint(got[1]) != "[1 2]" || fmt.Sprint(sets) != "[[1 2] []]" {
		t.Error(got, sets)
	}
	rel := [][]int{{1}, {0}, {2}, {3}}
	c := Comps(rel)
	_ = append(c[0], 99)
	c[0][0] = 50
	if fmt.Sprint(c[1:], rel) != "[[2] [3]] [[1] [0] [2] [3]]" {
		t.Error(c, rel)
	}
}

// reaches tells by trying all ways which nodes are reached from which.
func reaches(rel [][]int) [][]bool {
	n := len(rel)
	r := make([][]bool, n)
	for i := range r {
		r[i] = make([]bool, n)
		r[i][i] = true
		for _, j := range rel[i] {
			r[i][j] = true
		}
	}
	for k := range n {
		for i := range n {
			for j := range n {
				r[i][j] = r[i][j] || r[i][k] && r[k][j]
			}
		}
	}
	return r
}

func TestAgainstAllWays(t *testing.T) {
	for seed := range int64(300) {
		rnd := rand.New(rand.NewSource(seed))
		n := 1 + rnd.Intn(12)
		rel := make([][]int, n)
		sets := make([][]int, n)
		for range rnd.Intn(2 * n) {
			i := rnd.Intn(n)
			rel[i] = append(rel[i], rnd.Intn(n))
		}
		for i := range sets {
			sets[i] = []int{i}
		}
		r := reaches(rel)
		var want, comps [][]int
		for i := range n {
			var l, c []int
			for j := range n {
				if r[i][j] {
					l = append(l, j)
				}
				if r[i][j] && r[j][i] {
					c = append(c, j)
				}
			}
			want = append(want, l)
			if c[0] == i {
				comps = append(comps, c)
			}
		}
		if got := Close(rel, sets); fmt.Sprint(got) != fmt.Sprint(want) {
			t.Fatalf("%v: %v, not %v", rel, got, want)
		}
		if got := Comps(rel); fmt.Sprint(got) != fmt.Sprint(comps) {
			t.Fatalf("%v: %v, not %v", rel, got, comps)
		}
	}
}
