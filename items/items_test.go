package items

import (
	"fmt"
	"math"
	"slices"
	"strings"
	"testing"

	"yucca/api"
	"yucca/sample"
)

func grammar(t *testing.T, s string) api.Grammar {
	t.Helper()
	g, f := sample.Grammar(s)
	if f.Err != api.OK {
		t.Fatalf("%s: %v", s, f)
	}
	return g
}

func texts(g api.Grammar, l []api.Item) string {
	var s []string
	for _, x := range l {
		s = append(s, Text(g, x))
	}
	return strings.Join(s, ", ")
}

// 1 e : e '+' t, 2 e : t, 3 t : 'x', 4 t : {} e ')' with 5.
const sums = "%%e: e '+' t | t; t: 'x' | {} '(' e ')' | ; u: t"

func TestText(t *testing.T) {
	g := grammar(t, sums)
	for x, want := range map[api.Item]string{
		{Prod: 1, Dot: 0}: "e : . e '+' t", {Prod: 1, Dot: 1}: "e : e . '+' t", {Prod: 1, Dot: 3}: "e : e '+' t .", {Prod: 0, Dot: 1}: "$accept : e .", {Prod: 6, Dot: 0}: "t : .",
		{Prod: 5, Dot: 1}: "t : @1 . '(' e ')'", {Prod: 4, Dot: 0}: "@1 : .",
		{Prod: 1, Dot: 4}: "", {Prod: 1, Dot: -1}: "", {Prod: -1, Dot: 0}: "", {Prod: 8, Dot: 0}: "", {Prod: math.MaxInt, Dot: math.MinInt}: "", {Prod: 6, Dot: 1}: "",
	} {
		if s := Text(g, x); s != want {
			t.Errorf("%v: %s", x, s)
		}
	}
}

func TestNext(t *testing.T) {
	g := grammar(t, sums)
	for x, want := range map[api.Item]int{
		{Prod: 1, Dot: 0}: 1001, {Prod: 1, Dot: 1}: 3, {Prod: 1, Dot: 2}: 1002, {Prod: 1, Dot: 3}: -1, {Prod: 1, Dot: 4}: -1, {Prod: 1, Dot: -1}: -1, {Prod: 6, Dot: 0}: -1, {Prod: -1, Dot: 0}: -1,
		{Prod: 0, Dot: 0}: 1001, {Prod: 8, Dot: 0}: -1, {Prod: math.MinInt, Dot: 0}: -1,
	} {
		if s := Next(g, x); s != want {
			t.Errorf("%v: %d", x, s)
		}
	}
}

func TestClose(t *testing.T) {
	g := grammar(t, sums)
	for _, c := range []struct {
		l    []api.Item
		want string
	}{
		{nil, ""},
		{[]api.Item{{Prod: 0, Dot: 0}}, "$accept : . e, e : . e '+' t, e : . t, t : . 'x', @1 : ., t : . @1 '(' e ')', t : ."},
		{[]api.Item{{Prod: 1, Dot: 2}}, "e : e '+' . t, t : . 'x', @1 : ., t : . @1 '(' e ')', t : ."},
		{[]api.Item{{Prod: 1, Dot: 3}, {Prod: 1, Dot: 1}, {Prod: 0, Dot: 1}, {Prod: 1, Dot: 3}}, "$accept : e ., e : e . '+' t, e : e '+' t ."},
		{[]api.Item{{Prod: 1, Dot: 4}, {Prod: -1, Dot: 0}, {Prod: 5, Dot: 0}, {Prod: 50, Dot: 0}, {Prod: 2, Dot: -3}}, "@1 : ., t : . @1 '(' e ')'"},
		{[]api.Item{{Prod: 5, Dot: 1}}, "t : @1 . '(' e ')'"},
	} {
		before := slices.Clone(c.l)
		if s := texts(g, Close(g, c.l)); s != c.want {
			t.Errorf("%v: %s", c.l, s)
		}
		if !slices.Equal(before, c.l) {
			t.Errorf("%v: changed", before)
		}
	}
}

func TestOver(t *testing.T) {
	g := grammar(t, sums)
	start := []api.Item{{Prod: 0, Dot: 0}}
	for sym, want := range map[int]string{
		1001: "$accept : e ., e : e . '+' t", 1002: "e : t .", 4: "t : 'x' .", 1004: "t : @1 . '(' e ')'", 3: "", 0: "", -1: "", 1000: "", 1003: "", 99: "", math.MaxInt: "",
	} {
		if s := texts(g, Over(g, start, sym)); s != want {
			t.Errorf("%d: %s", sym, s)
		}
	}
	if s := texts(g, Over(g, []api.Item{{Prod: 1, Dot: 3}, {Prod: 1, Dot: 1}, {Prod: 1, Dot: 1}, {Prod: 1, Dot: 9}}, 3)); s != "e : e '+' . t" {
		t.Error(s)
	}
	if s := texts(g, Over(g, nil, 3)); s != "" {
		t.Error(s)
	}
}

// closed tells whether l is the least closed set that has the items.
func closed(g api.Grammar, items, l []api.Item) bool {
	for _, x := range l {
		if non := Next(g, x); non >= api.Non0 {
			for i, p := range g.Prods {
				if api.Non0+p.Left == non && !slices.Contains(l, api.Item{Prod: i}) {
					return false
				}
			}
		}
		called := slices.ContainsFunc(l, func(y api.Item) bool {
			return x.Dot == 0 && Next(g, y) == api.Non0+g.Prods[x.Prod].Left
		})
		if !slices.Contains(items, x) && !called {
			return false
		}
	}
	return true
}

func TestClosuresAreClosed(t *testing.T) {
	for seed := range 200 {
		g := grammar(t, sample.Small(seed))
		for p, prod := range g.Prods {
			for dot := range len(prod.Right) + 1 {
				l := []api.Item{{Prod: p, Dot: dot}}
				all := Close(g, l)
				if !closed(g, l, all) || fmt.Sprint(Close(g, all)) != fmt.Sprint(all) {
					t.Errorf("%s: %s: %s", sample.Small(seed), texts(g, l), texts(g, all))
				}
				sorted := slices.IsSortedFunc(all, func(a, b api.Item) int {
					return (a.Prod-b.Prod)*100 + a.Dot - b.Dot
				})
				if !sorted {
					t.Errorf("%s: %v", sample.Small(seed), all)
				}
			}
		}
	}
}
