package look

import (
	"fmt"
	"math"
	"slices"
	"strings"
	"testing"

	"yucca/api"
	"yucca/auto"
	"yucca/gram"
	"yucca/items"
	"yucca/sample"
	"yucca/vain"
)

// made tells a grammar and its machine; nil: it has too many states.
func made(t *testing.T, s string) (api.Grammar, []api.State) {
	t.Helper()
	g, f := sample.Grammar(s)
	if f.Err != api.OK {
		t.Fatalf("%s: %v", s, f)
	}
	m, _ := auto.Of(g)
	return g, m
}

func show(g api.Grammar, l []api.Look) string {
	var s []string
	for _, x := range l {
		line := fmt.Sprintf("%d/%d:", x.State, x.Prod)
		for _, k := range x.Toks {
			line += " " + gram.Name(g, k)
		}
		s = append(s, line)
	}
	return strings.Join(s, "; ")
}

func TestOf(t *testing.T) {
	for s, want := range map[string]string{
		"%%e: e '+' 'x' | 'x'":                   "1/2: $end '+'; 4/1: $end '+'",
		"%%s: c c; c: 'x' c | 'y'":               "2/3: $end 'x' 'y'; 5/2: $end 'x' 'y'; 6/1: $end",
		"%%s: l '=' r | r; l: '*' r | 'x'; r: l": "2/4: $end '='; 4/5: $end; 5/2: $end; 6/5: $end '='; 7/3: $end '='; 9/1: $end",
		"%%s: ;":                                 "0/1: $end",
	} {
		g, m := made(t, s)
		if got := show(g, Of(g, m)); got != want {
			t.Errorf("%s: %s, not %s", s, got, want)
		}
	}
}

// TestOwnWayOfFollow: what a transition that is read includes does not count:
// SLR's sets would have more.
func TestOwnWayOfFollow(t *testing.T) {
	g, m := made(t, "%%s: 'a' a 'd' | 'b' b 'd' | 'a' b 'e' | 'b' a 'e'; a: 'c'; b: 'c'")
	at := auto.Walk(m, []int{3, 7})
	if at < 0 || gram.Name(g, 3) != "'a'" || gram.Name(g, 7) != "'c'" {
		t.Fatal(at)
	}
	for _, x := range Of(g, m) {
		if x.State == at && fmt.Sprint(x.Toks) != "[4 6]" {
			t.Error(show(g, []api.Look{x}))
		}
	}
}

func TestOthers(t *testing.T) {
	g, m := made(t, "%%e: e '+' 'x' | 'x'")
	for _, c := range [][2]int{{-1, 1}, {5, 1}, {4, 0}, {2, 0}, {4, -1}, {4, 3}, {math.MaxInt, math.MaxInt}, {math.MinInt, 2}, {4, 2}, {0, 1}} {
		if l := Back(g, m, c[0], c[1]); len(l) != 0 {
			t.Errorf("%v: %v", c, l)
		}
	}
	if fmt.Sprint(Back(g, m, 4, 1), Back(g, m, 1, 2), Trans(m)) != "[0] [0] [{0 1001}]" {
		t.Error(Back(g, m, 4, 1), Back(g, m, 1, 2), Trans(m))
	}
}

// naive has all by the words, without regard to time.
type naive struct {
	g        api.Grammar
	m        []api.State
	trans    []api.Trans
	nullable []int
}

func (n naive) goes(p int, l []int) int {
	for _, s := range l {
		to := -1
		for _, v := range n.m[p].Moves {
			if v.Sym == s {
				to = v.To
			}
		}
		if to < 0 {
			return -1
		}
		p = to
	}
	return p
}

func (n naive) end(t api.Trans) int { return n.goes(t.State, []int{t.Non}) }

func (n naive) direct(t api.Trans) []int {
	var l []int
	for s := range len(n.g.Toks) {
		if n.goes(n.end(t), []int{s}) >= 0 || s == 0 && slices.Contains(n.m[n.end(t)].Kernel, api.Item{Dot: 1}) {
			l = append(l, s)
		}
	}
	return l
}

func (n naive) reads(t, r api.Trans) bool {
	return r.State == n.end(t) && slices.Contains(n.nullable, r.Non)
}

func (n naive) includes(t, b api.Trans) bool {
	for _, p := range n.g.Prods {
		if api.Non0+p.Left != b.Non {
			continue
		}
		for d, s := range p.Right {
			rest := !slices.ContainsFunc(p.Right[d+1:], func(x int) bool { return !slices.Contains(n.nullable, x) })
			if s == t.Non && rest && n.goes(b.State, p.Right[:d]) == t.State {
				return true
			}
		}
	}
	return false
}

func (n naive) back(q, p int, t api.Trans) bool {
	prod := n.g.Prods[p]
	return p != 0 && api.Non0+prod.Left == t.Non && n.goes(t.State, prod.Right) == q
}

// numbers tells those of the transitions that fit.
func (n naive) numbers(fits func(t api.Trans) bool) []int {
	var l []int
	for i, t := range n.trans {
		if fits(t) {
			l = append(l, i)
		}
	}
	return l
}

// least goes on from the sets till they stay.
func least(sets [][]int, rel [][]int) [][]int {
	now := slices.Clone(sets)
	for more := true; more; {
		more = false
		for i := range now {
			all := slices.Clone(now[i])
			for _, j := range rel[i] {
				all = append(all, now[j]...)
			}
			slices.Sort(all)
			all = slices.Compact(all)
			more = more || len(all) > len(now[i])
			now[i] = all
		}
	}
	return now
}

func same(a, b [][]int) bool { return slices.EqualFunc(a, b, slices.Equal[[]int]) }

func checkWords(t *testing.T, s string) {
	g, m := made(t, s)
	if m == nil {
		return
	}
	n := naive{g, m, Trans(m), vain.Nullable(g)}
	var trans []api.Trans
	for p := range m {
		for non := range g.Nons {
			if n.goes(p, []int{api.Non0 + non}) >= 0 {
				trans = append(trans, api.Trans{State: p, Non: api.Non0 + non})
			}
		}
	}
	if !slices.Equal(trans, n.trans) {
		t.Fatalf("%s: %v", s, n.trans)
	}
	var direct, reads, includes [][]int
	for _, x := range n.trans {
		direct = append(direct, n.direct(x))
		reads = append(reads, n.numbers(func(y api.Trans) bool { return n.reads(x, y) }))
		includes = append(includes, n.numbers(func(y api.Trans) bool { return n.includes(x, y) }))
	}
	follow := least(least(direct, reads), includes)
	if !same(direct, Direct(g, m)) || !same(reads, Reads(g, m)) || !same(includes, Includes(g, m)) || !same(follow, Follow(g, m)) {
		t.Fatalf("%s: %v, %v, %v, %v", s, Direct(g, m), Reads(g, m), Includes(g, m), Follow(g, m))
	}
	var looks []api.Look
	for q, state := range m {
		for p, prod := range g.Prods {
			back := n.numbers(func(y api.Trans) bool { return n.back(q, p, y) })
			if !slices.Equal(back, Back(g, m, q, p)) {
				t.Fatalf("%s: %d, %d: %v", s, q, p, Back(g, m, q, p))
			}
			if p == 0 || !slices.Contains(items.Close(g, state.Kernel), api.Item{Prod: p, Dot: len(prod.Right)}) {
				continue
			}
			toks := []int{}
			for _, i := range back {
				toks = append(toks, follow[i]...)
			}
			slices.Sort(toks)
			looks = append(looks, api.Look{State: q, Prod: p, Toks: slices.Compact(toks)})
		}
	}
	if fmt.Sprint(looks) != fmt.Sprint(Of(g, m)) {
		t.Fatalf("%s: %v, not %v", s, Of(g, m), looks)
	}
}

func TestWordsHold(t *testing.T) {
	for _, s := range sample.Texts() {
		checkWords(t, s)
	}
	for seed := range 250 {
		checkWords(t, sample.Small(seed))
	}
}

func TestListsAreNew(t *testing.T) {
	g, m := made(t, "%%s: c c; c: 'x' c | 'y'")
	l := Of(g, m)
	before := fmt.Sprint(l)
	for i := range l {
		_ = append(l[i].Toks, 77)
	}
	if fmt.Sprint(l) != before {
		t.Error("lists share spare room")
	}
	follow := Follow(g, m)
	follow[0][0] = 55
	if fmt.Sprint(Of(g, m)) != before {
		t.Error("a told list changes what is told")
	}
}
