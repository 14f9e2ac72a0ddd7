package tree

import (
	"fmt"
	"math"
	"reflect"
	"strings"
	"testing"

	"yucca/api"
	"yucca/sample"
)

func grammar(t *testing.T, s string) api.Grammar {
	t.Helper()
	g, f := sample.Grammar(s)
	if f.Err != api.OK {
		t.Fatalf("%s: %v", s, f)
	}
	return g
}

func leafAt(sym, at int) api.Node { return api.Node{Sym: sym, Prod: -1, At: at} }

func node(sym, prod int, kids ...api.Node) api.Node {
	return api.Node{Sym: sym, Prod: prod, At: -1, Kids: kids}
}

// e : e '+' e (1) | 'x' (2); '+' 3, 'x' 4, e 1001.
const sums = "%%e: e '+' e | 'x'"

func sum() api.Node {
	return node(1001, 1, node(1001, 2, leafAt(4, 0)), leafAt(3, 1), node(1001, 2, leafAt(4, 2)))
}

func TestExample(t *testing.T) {
	g := grammar(t, sums)
	x := sum()
	if s := Text(g, x); s != "(e (e 'x') '+' (e 'x'))" {
		t.Error(s)
	}
	if !May(g, x) || Size(x) != 6 || fmt.Sprint(Prods(x), Yield(x), Leaves(x)) != "[2 2 1] [4 3 4] [0 1 2]" {
		t.Error(May(g, x), Size(x), Prods(x), Yield(x), Leaves(x))
	}
	if b, ok := Build(g, []int{2, 2, 1}, []int{4, 3, 4}); !ok || !reflect.DeepEqual(b, x) {
		t.Error(b, ok)
	}
}

func TestMay(t *testing.T) {
	g := grammar(t, "%%a: 'x' b | b; b:")
	for i, x := range []api.Node{
		leafAt(0, 0), leafAt(1, 5), leafAt(3, math.MaxInt), node(1002, 3), node(1001, 2, node(1002, 3)), node(1000, 0, node(1001, 1, leafAt(3, 7), node(1002, 3))),
		{Sym: 3, Prod: -1, Kids: []api.Node{}}, {Sym: 1002, Prod: 3, At: -1, Kids: []api.Node{}},
	} {
		if !May(g, x) || Text(g, x) == "" {
			t.Errorf("%d: is none", i)
		}
	}
	for i, x := range []api.Node{
		{}, leafAt(4, 0), leafAt(-1, 0), leafAt(1001, 0), leafAt(3, -1), {Sym: 3, Prod: -1, Kids: []api.Node{leafAt(3, 0)}}, {Sym: 1002, Prod: 3},
		node(1001, 3), node(1002, 4), node(1002, -2), node(3, 3), node(1003, 3), node(1001, 1), node(1001, 1, leafAt(3, 0)),
		node(1001, 1, leafAt(3, 0), node(1002, 3), node(1002, 3)), node(1001, 1, node(1002, 3), leafAt(3, 0)), node(1001, 2, node(1001, 3)),
		node(1001, 2, node(1002, 3, node(1002, 3))), node(1001, 2, node(1002, math.MaxInt)), node(1001, 2, leafAt(1002, 0)), node(1001, 1, leafAt(3, -1), node(1002, 3)),
	} {
		if May(g, x) || Text(g, x) != "" {
			t.Errorf("%d: is one", i)
		}
	}
}

// chain tells a tree of a : a 'x' | b of the given number of 'x', and the
// productions and tokens of it: it has 2 n + 2 nodes.
func chain(n int) (api.Node, []int, []int) {
	x := node(1001, 2, node(1002, 3))
	prods, toks := []int{3, 2}, []int{}
	for i := range n {
		x = node(1001, 1, x, leafAt(3, i))
		prods, toks = append(prods, 1), append(toks, 3)
	}
	return x, prods, toks
}

func TestMostNodes(t *testing.T) {
	g := grammar(t, "%%a: a 'x' | b; b:")
	for n, want := range map[int]bool{1499: true, 1500: false, 30000: false} {
		x, prods, toks := chain(n)
		if Size(x) != 2*n+2 || May(g, x) != want || (Text(g, x) != "") != want {
			t.Errorf("%d: %d, %v", n, Size(x), May(g, x))
		}
		if len(Prods(x)) != n+2 || len(Yield(x)) != n || len(Leaves(x)) != n {
			t.Errorf("%d", n)
		}
		if b, ok := Build(g, prods, toks); ok != want || want && !reflect.DeepEqual(b, x) || !want && !reflect.DeepEqual(b, api.Node{}) {
			t.Errorf("%d: %v", n, ok)
		}
	}
}

func TestAnyNodes(t *testing.T) {
	x := api.Node{Sym: -7, Prod: -5, At: 3, Kids: []api.Node{
		{Sym: 9, Prod: -1, At: -4, Kids: []api.Node{leafAt(8, 8), node(1, 77)}}, {Sym: 6, Prod: 99}, {}, leafAt(2, 2),
	}}
	if Size(x) != 7 || fmt.Sprint(Yield(x), Leaves(x), Prods(x)) != "[9 2] [-4 2] [99 0 -5]" {
		t.Error(Size(x), Yield(x), Leaves(x), Prods(x))
	}
	if May(grammar(t, sums), x) {
		t.Error("may be")
	}
}

func TestBuildOfOthers(t *testing.T) {
	g := grammar(t, sums)
	for i, c := range []struct{ prods, toks []int }{
		{nil, nil}, {nil, []int{4}}, {[]int{2}, nil}, {[]int{2}, []int{3}}, {[]int{2}, []int{4, 4}}, {[]int{2}, []int{0, 4}}, {[]int{2, 2}, []int{4}}, {[]int{1, 2}, []int{4}},
		{[]int{2, 1}, []int{4, 3, 4}}, {[]int{2, 2, 2, 1}, []int{4, 3, 4}}, {[]int{2, 2, 1}, []int{4, 4, 4}}, {[]int{0}, []int{4}}, {[]int{2, 0}, []int{4}}, {[]int{3}, []int{4}},
		{[]int{-1}, []int{4}}, {[]int{math.MaxInt}, []int{4}}, {[]int{2, 2, 1}, []int{4, 3}}, {[]int{0, 2, 2, 1}, []int{4, 3, 4}}, {[]int{2}, []int{math.MinInt}},
	} {
		if x, ok := Build(g, c.prods, c.toks); ok || !reflect.DeepEqual(x, api.Node{}) {
			t.Errorf("%d: %s", i, Text(g, x))
		}
	}
}

func TestBuildTakesTheRightmost(t *testing.T) {
	g := grammar(t, sums)
	x, ok := Build(g, []int{2, 2, 1, 2, 1}, []int{4, 3, 4, 3, 4})
	if s := Text(g, x); !ok || s != "(e (e (e 'x') '+' (e 'x')) '+' (e 'x'))" {
		t.Error(s)
	}
	x, ok = Build(g, []int{2, 2, 2, 1, 1}, []int{4, 3, 4, 3, 4})
	if s := Text(g, x); !ok || s != "(e (e 'x') '+' (e (e 'x') '+' (e 'x')))" {
		t.Error(s)
	}
}

func TestTextOfNames(t *testing.T) {
	g := grammar(t, "%token A '\\n'%%a: b A {} '\\n' error; b:")
	x, ok := Build(g, []int{3, 1, 2}, []int{3, 4, 1})
	if s := Text(g, x); !ok || s != `(a (b) A (@1) '\n' error)` {
		t.Error(s)
	}
}

func TestBuildOfProdsAndYieldIsTheTree(t *testing.T) {
	n := 0
	for seed := range 300 {
		s := sample.Small(seed)
		g := grammar(t, s)
		for i := range 5 {
			x, ok := sample.Tree(g, seed*5+i)
			if !ok {
				continue
			}
			n++
			if !May(g, x) {
				t.Fatalf("%s: %v", s, x)
			}
			back, ok := Build(g, Prods(x), Yield(x))
			if !ok || !reflect.DeepEqual(back, x) {
				t.Fatalf("%s: %s, not %s", s, Text(g, back), Text(g, x))
			}
			if strings.Count(Text(g, x), "(") != len(Prods(x)) {
				t.Fatalf("%s: %s", s, Text(g, x))
			}
		}
	}
	if n < 500 {
		t.Errorf("%d trees alone", n)
	}
}
