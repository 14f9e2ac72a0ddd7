package first

import (
	"fmt"
	"math"
	"slices"
	"testing"

	"yucca/api"
	"yucca/gram"
	"yucca/sample"
	"yucca/vain"
)

func grammar(t *testing.T, s string) api.Grammar {
	t.Helper()
	g, f := sample.Grammar(s)
	if f.Err != api.OK {
		t.Fatalf("%s: %v", s, f)
	}
	return g
}

func show(g api.Grammar) string {
	s := ""
	for i, l := range Of(g) {
		s += g.Nons[i].Name + ":"
		for _, x := range l {
			s += " " + gram.Name(g, x)
		}
		s += "; "
	}
	return s
}

func TestOf(t *testing.T) {
	for s, want := range map[string]string{
		"%%a: b 'x'; b: | 'y';":                            "$accept: 'x' 'y'; a: 'x' 'y'; b: 'y'; ",
		"%%a: b 'x' | 'z'; b: 'y';":                        "$accept: 'z' 'y'; a: 'z' 'y'; b: 'y'; ",
		"%%a: a 'x' | ;":                                   "$accept: 'x'; a: 'x'; ",
		"%%a: a 'x' | a;":                                  "$accept:; a:; ",
		"%%a: v 'x'; v: 'y' v;":                            "$accept: 'y'; a: 'y'; v: 'y'; ",
		"%%a: v 'x'; v: v 'y';":                            "$accept:; a:; v:; ",
		"%%a: b c; b: c 'y' | ; c: {} error | ;":           "$accept: error 'y'; a: error 'y'; b: error 'y'; c: error; @1:; ",
		"%%a: b c d 'w'; b: |'x'; c: |'y'; d: |'z'; e: a;": "$accept: 'w' 'x' 'y' 'z'; a: 'w' 'x' 'y' 'z'; b: 'x'; c: 'y'; d: 'z'; e: 'w' 'x' 'y' 'z'; ",
	} {
		if got := show(grammar(t, s)); got != want {
			t.Errorf("%s: %s, not %s", s, got, want)
		}
	}
}

func TestList(t *testing.T) {
	// 'w' 3, 'x' 4, 'y' 5; a 1001, b 1002, c 1003, v 1004
	g := grammar(t, "%%a: b 'w'; b: | 'x'; c: | 'y' c; v: v 'x';")
	for _, c := range []struct {
		l     []int
		want  string
		empty bool
	}{
		{nil, "[]", true}, {[]int{4}, "[4]", false}, {[]int{0}, "[0]", false}, {[]int{1002}, "[4]", true}, {[]int{1002, 1003}, "[4 5]", true},
		{[]int{1003, 1002, 3, 5}, "[3 4 5]", false}, {[]int{1001, 5}, "[3 4]", false}, {[]int{1000}, "[3 4]", false}, {[]int{1004, 5}, "[]", false},
		{[]int{1003, 1004, 5}, "[5]", false}, {[]int{1002, 1002, 2}, "[2 4]", false},
	} {
		if l, empty := List(g, c.l); fmt.Sprint(l) != c.want || empty != c.empty {
			t.Errorf("%v: %v, %v", c.l, l, empty)
		}
	}
	for _, s := range []int{-1, 6, 999, 1005, math.MaxInt, math.MinInt} {
		for _, l := range [][]int{{s}, {4, s}, {s, 4}, {1002, s, 1002}} {
			if got, empty := List(g, l); got != nil || empty {
				t.Errorf("%v: %v, %v", l, got, empty)
			}
		}
	}
}

// fits tells whether the sets are as the words of FIRST say, one step deep.
func fits(g api.Grammar, firsts [][]int) bool {
	nullable := vain.Nullable(g)
	for i := range g.Nons {
		var want []int
		for _, p := range g.Prods {
			if p.Left != i {
				continue
			}
			for _, s := range p.Right {
				if s < api.Non0 {
					want = append(want, s)
					break
				}
				want = append(want, firsts[s-api.Non0]...)
				if !slices.Contains(nullable, s) {
					break
				}
			}
		}
		slices.Sort(want)
		if !slices.Equal(slices.Compact(want), firsts[i]) {
			return false
		}
	}
	return true
}

// least tells the sets by going on from empty ones.
func least(g api.Grammar) [][]int {
	nullable := vain.Nullable(g)
	sets := make([][]int, len(g.Nons))
	for range 100 {
		for _, p := range g.Prods {
			for _, s := range p.Right {
				if s < api.Non0 {
					sets[p.Left] = append(sets[p.Left], s)
					break
				}
				sets[p.Left] = append(sets[p.Left], sets[s-api.Non0]...)
				if !slices.Contains(nullable, s) {
					break
				}
			}
			slices.Sort(sets[p.Left])
			sets[p.Left] = slices.Compact(sets[p.Left])
		}
	}
	return sets
}

func TestAgainstGoingOn(t *testing.T) {
	for seed := range 400 {
		g := grammar(t, sample.Small(seed))
		got := Of(g)
		if !fits(g, got) || fmt.Sprint(got) != fmt.Sprint(least(g)) {
			t.Errorf("%s: %v", sample.Small(seed), got)
		}
		for i, p := range g.Prods {
			l, empty := List(g, p.Right)
			left, _ := List(g, []int{api.Non0 + p.Left})
			for _, x := range l {
				if !slices.Contains(left, x) {
					t.Errorf("%s: %d: %v", sample.Small(seed), i, l)
				}
			}
			if empty && !slices.Contains(vain.Nullable(g), api.Non0+p.Left) {
				t.Errorf("%s: %d: empty", sample.Small(seed), i)
			}
		}
	}
}
