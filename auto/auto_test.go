package auto

import (
	"fmt"
	"math"
	"slices"
	"strings"
	"testing"

	"yucca/api"
	"yucca/items"
	"yucca/sample"
)

func grammar(t *testing.T, s string) api.Grammar {
	t.Helper()
	g, f := sample.Grammar(s)
	if f.Err != api.OK {
		t.Fatalf("%s: %v", s, f)
	}
	return g
}

func machine(t *testing.T, s string) []api.State {
	t.Helper()
	m, err := Of(grammar(t, s))
	if err != api.OK {
		t.Fatalf("%s: %d", s, err)
	}
	return m
}

func TestOf(t *testing.T) {
	for s, want := range map[string]string{
		"%%s: 'x'":                        "[{[{0 0}] [{3 1} {1001 2}]} {[{1 1}] []} {[{0 1}] []}]",
		"%%s: ;":                          "[{[{0 0}] [{1001 1}]} {[{0 1}] []}]",
		"%%e: e '+' 'x' | 'x'":            "[{[{0 0}] [{4 1} {1001 2}]} {[{2 1}] []} {[{0 1} {1 1}] [{3 3}]} {[{1 2}] [{4 4}]} {[{1 3}] []}]",
		"%%a: a | 'x' b; b: {} error | a": "[{[{0 0}] [{3 1} {1001 2}]} {[{2 1}] [{3 1} {1001 3} {1002 4} {1003 5}]} {[{0 1} {1 1}] []} {[{1 1} {5 1}] []} {[{2 2}] []} {[{4 1}] [{1 6}]} {[{4 2}] []}]",
	} {
		if got := fmt.Sprint(machine(t, s)); got != want {
			t.Errorf("%s: %s", s, got)
		}
	}
}

func TestStatesOfKnownGrammars(t *testing.T) {
	for s, want := range map[string]int{
		"%%e: e '+' t | t; t: t '*' f | f; f: '(' e ')' | 'x'": 12,
		"%%s: c c; c: 'x' c | 'y'":                             7,
		"%%s: l '=' r | r; l: '*' r | 'x'; r: l":               10,
	} {
		if got := len(machine(t, s)); got != want {
			t.Errorf("%s: %d", s, got)
		}
	}
}

// long tells a grammar whose machine has 2 + the sum of the alternatives'
// lengths states.
func long(lengths ...int) string {
	s := "%%s:"
	for i, n := range lengths {
		if i > 0 {
			s += "|"
		}
		s += fmt.Sprintf(" '%c'", 'A'+i) + strings.Repeat(" 'x'", n-1)
	}
	return s
}

func TestLimit(t *testing.T) {
	full := slices.Repeat([]int{8}, 18) // 144 states
	if m := machine(t, long(append(full, 4)...)); len(m) != 150 {
		t.Error(len(m))
	}
	if m, err := Of(grammar(t, long(append(full, 5)...))); m != nil || err != api.ErrLimit {
		t.Error(len(m), err)
	}
	if m, err := Of(grammar(t, long(append(full, 8, 8, 8)...))); m != nil || err != api.ErrLimit {
		t.Error(len(m), err)
	}
}

func TestFind(t *testing.T) {
	m := machine(t, "%%e: e '+' 'x' | 'x'")
	for i, c := range []struct {
		k    []api.Item
		want int
	}{
		{nil, -1}, {[]api.Item{{Prod: 0, Dot: 0}}, 0}, {[]api.Item{{Prod: 0, Dot: 1}, {Prod: 1, Dot: 1}}, 2}, {[]api.Item{{Prod: 1, Dot: 1}, {Prod: 0, Dot: 1}, {Prod: 1, Dot: 1}}, 2},
		{[]api.Item{{Prod: 1, Dot: 1}}, -1}, {[]api.Item{{Prod: 0, Dot: 1}}, -1}, {[]api.Item{{Prod: 0, Dot: 0}, {Prod: 1, Dot: 0}}, -1}, {[]api.Item{{Prod: 1, Dot: 3}}, 4},
		{[]api.Item{{Prod: -1, Dot: math.MaxInt}}, -1},
	} {
		before := slices.Clone(c.k)
		if got := Find(m, c.k); got != c.want || !slices.Equal(before, c.k) {
			t.Errorf("%d: %d", i, got)
		}
	}
}

func TestWalk(t *testing.T) {
	m := machine(t, "%%e: e '+' 'x' | 'x'")
	for i, c := range []struct {
		l    []int
		want int
	}{
		{nil, 0}, {[]int{4}, 1}, {[]int{1001}, 2}, {[]int{1001, 3, 4}, 4}, {[]int{3}, -1}, {[]int{1001, 3, 4, 4}, -1}, {[]int{0}, -1}, {[]int{1001, 0}, -1}, {[]int{-1}, -1}, {[]int{math.MaxInt, 4}, -1},
	} {
		if got := Walk(m, c.l); got != c.want {
			t.Errorf("%d: %d", i, got)
		}
	}
}

func TestListsAreNew(t *testing.T) {
	g := grammar(t, "%%e: e '+' 'x' | 'x'")
	m, _ := Of(g)
	before := fmt.Sprint(m)
	for _, s := range m {
		_ = append(s.Kernel, api.Item{Prod: 9})
		_ = append(s.Moves, api.Move{Sym: 9})
	}
	if fmt.Sprint(m) != before {
		t.Error("lists share spare room")
	}
}

// TestWordsHold looks whether each machine is as its words say.
func TestWordsHold(t *testing.T) {
	for seed := range 300 {
		s := sample.Small(seed)
		g := grammar(t, s)
		m, err := Of(g)
		if err != api.OK {
			continue
		}
		found := 1
		for i, state := range m {
			if Find(m, state.Kernel) != i {
				t.Fatalf("%s: state %d stands twice", s, i)
			}
			rest := state.Moves
			for sym := range api.Non0 + len(g.Nons) {
				over := items.Over(g, state.Kernel, sym)
				if len(over) == 0 {
					continue
				}
				if len(rest) == 0 || rest[0].Sym != sym || !slices.Equal(m[rest[0].To].Kernel, over) || rest[0].To > found {
					t.Fatalf("%s: state %d over %d", s, i, sym)
				}
				found = max(found, rest[0].To+1)
				rest = rest[1:]
			}
			if len(rest) > 0 {
				t.Fatalf("%s: state %d: %v", s, i, rest)
			}
		}
		if found != len(m) {
			t.Fatalf("%s: %d, not %d", s, found, len(m))
		}
	}
}
