package drive

import (
	"fmt"
	"math"
	"reflect"
	"slices"
	"strings"
	"testing"

	"yucca/api"
	"yucca/auto"
	"yucca/cand"
	"yucca/dense"
	"yucca/look"
	"yucca/nums"
	"yucca/pack"
	"yucca/sample"
	"yucca/settle"
	"yucca/tree"
)

type made struct {
	g api.Grammar
	d api.Dense
	t api.Tables
}

func make1(t *testing.T, s string) made {
	t.Helper()
	g, f := sample.Grammar(s)
	if f.Err != api.OK {
		t.Fatalf("%s: %v", s, f)
	}
	m, err := auto.Of(g)
	if err != api.OK {
		t.Fatalf("%s: %d", s, err)
	}
	d, _ := settle.Of(g, m, cand.Of(g, m, look.Of(g, m)))
	return made{g, d, pack.Of(g, d)}
}

// chars tells a text's bytes as numbers of tokens; a ! is a number without a
// token.
func chars(s string) []int {
	var l []int
	for _, c := range []byte(s) {
		if c == '!' {
			l = append(l, 60000)
		} else {
			l = append(l, int(c))
		}
	}
	return l
}

const most = math.MaxInt

// show tells a run in short.
func show(m made, p api.Parse) string {
	s := fmt.Sprintf("%s at %d, %d steps, %d deep, %v, %v, %v", []string{"?", "accept", "error", "limit"}[p.Kind], p.At, p.Steps, p.Deep, p.Prods, p.Upsets, p.Lost)
	if text := tree.Text(m.g, p.Tree); text != "" {
		s += ", " + text
	}
	return s
}

func TestParse(t *testing.T) {
	const sums = "%%e: e '+' 'x' | 'x'"
	const lines = "%%s : s 'x' ';' | error ';' | 'x' ';'"
	const calls = "%%l: l s | ; s: 'x' '=' e ';' | error ';'; e: e '+' 'x' | 'x' | '(' error ')'"
	for _, c := range []struct {
		s, toks      string
		depth, steps int
		want         string
	}{
		{sums, "x+x", most, most, "accept at 3, 5 steps, 3 deep, [2 1], [], [], (e (e 'x') '+' 'x')"},
		{sums, "x+x", 3, 5, "accept at 3, 5 steps, 3 deep, [2 1], [], [], (e (e 'x') '+' 'x')"},
		{sums, "x+x", 2, 5, "limit at 2, 3 steps, 2 deep, [2], [], []"},
		{sums, "x+x", 3, 4, "limit at 3, 4 steps, 3 deep, [2], [], []"},
		{sums, "x", -1, 4, "limit at 0, 0 steps, 0 deep, [], [], []"},
		{sums, "x", 4, -1, "limit at 0, 0 steps, 0 deep, [], [], []"},
		{sums, "", 0, 0, "error at 0, 0 steps, 0 deep, [], [{0 true}], []"},
		{sums, "x!", 5, 5, "error at 1, 3 steps, 1 deep, [2], [{1 true}], []"},
		{lines, "xx;x;", most, most, "accept at 5, 9 steps, 3 deep, [2 1], [{1 true}], [1], (s (s error ';') 'x' ';')"},
		{lines, "xx;x;", 3, 9, "accept at 5, 9 steps, 3 deep, [2 1], [{1 true}], [1], (s (s error ';') 'x' ';')"},
		{lines, "xx;x;", 3, 8, "limit at 5, 8 steps, 3 deep, [2], [{1 true}], [1]"},
		{lines, "xx;x;", 1, 9, "limit at 2, 4 steps, 1 deep, [], [{1 true}], [1]"},
		{lines, "xx;x;", 9, 1, "limit at 1, 1 steps, 1 deep, [], [{1 true}], []"},
		{lines, "xx;x;", 9, 2, "limit at 1, 2 steps, 1 deep, [], [{1 true}], []"},
		{lines, "xx;x;", 9, 3, "limit at 1, 3 steps, 1 deep, [], [{1 true}], []"},
		{lines, "!", 0, 9, "limit at 0, 0 steps, 0 deep, [], [{0 true}], []"},
		{lines, "xx!x", most, most, "error at 4, 6 steps, 1 deep, [], [{1 true}], [1 2 3]"},
		{lines, "x;;x;", most, most, "accept at 5, 10 steps, 3 deep, [3 2 1], [{2 true}], [], (s (s error ';') 'x' ';')"},
		{lines, "x;xx;x;", most, most, "accept at 7, 13 steps, 3 deep, [3 2 1], [{3 true}], [3], (s (s error ';') 'x' ';')"},
		{calls, "x=(!);x=x+x;", most, most, "accept at 12, 21 steps, 6 deep, [2 7 3 1 6 5 3 1], [{3 true}], [3], (l (l (l) (s 'x' '=' (e '(' error ')') ';')) (s 'x' '=' (e (e 'x') '+' 'x') ';'))"},
		{calls, "x;x=x;", most, most, "accept at 6, 14 steps, 5 deep, [2 4 1 6 3 1], [{1 true}], [], (l (l (l) (s error ';')) (s 'x' '=' (e 'x') ';'))"},
	} {
		m := make1(t, c.s)
		if got := show(m, Parse(m.t, chars(c.toks), c.depth, c.steps)); got != c.want {
			t.Errorf("%s of %s: %s, not %s", c.toks, c.s, got, c.want)
		}
	}
}

func TestToldIsWithTheFlagDown(t *testing.T) {
	m := make1(t, "%%l: l s | ; s: 'x' '=' 'x' ';' | error ';'")
	for toks, want := range map[string]string{
		";;":             "[{0 true} {1 false}]",
		";x;":            "[{0 true} {2 false}]",
		";x=;":           "[{0 true} {3 true}]",
		";x=x;;":         "[{0 true} {5 true}]",
		"!!;x=;":         "[{0 true} {5 true}]",
		"!!;!!;x;":       "[{0 true} {3 false} {7 false}]",
		";x=x;x;;x=x=x;": "[{0 true} {6 true} {7 false} {11 true}]",
	} {
		p := Parse(m.t, chars(toks), most, most)
		if got := fmt.Sprint(p.Upsets); got != want || p.Kind != api.KAccept {
			t.Errorf("%s: %s, %d", toks, got, p.Kind)
		}
	}
}

func TestTokensEndAtNought(t *testing.T) {
	m := make1(t, "%token A %%e: e '+' A | A")
	for _, list := range [][]int{{57346, '+', 57346}, {57346, '+', 57346, 0, 1, 2}, {57346, '+', 57346, -1, '+'}, {57346, '+', 57346, math.MinInt}} {
		before := slices.Clone(list)
		p := Parse(m.t, list, 9, 9)
		if s := show(m, p); s != "accept at 3, 5 steps, 3 deep, [2 1], [], [], (e (e A) '+' A)" {
			t.Errorf("%v: %s", list, s)
		}
		if !slices.Equal(before, list) {
			t.Errorf("%v: changed", before)
		}
		if at := fmt.Sprint(tree.Leaves(p.Tree)); at != "[0 1 2]" {
			t.Error(at)
		}
	}
	if p := Parse(m.t, []int{0, 57346}, 9, 9); p.Kind != api.KError || p.At != 0 {
		t.Error(p)
	}
	// The numbers of error and $unk, and those of no token, are none that fit.
	for _, n := range []int{1, 2, 3, 44, 57347, most} {
		if p := Parse(m.t, []int{n}, 9, 9); p.Kind != api.KError || p.At != 0 || len(p.Upsets) != 1 {
			t.Error(n, p)
		}
	}
}

func TestGreatestLimits(t *testing.T) {
	m := make1(t, "%%s: 'x' s | ")
	p := Parse(m.t, chars(strings.Repeat("x", api.MaxDepth+5)), most, most)
	if p.Kind != api.KLimit || p.Deep != api.MaxDepth || p.At != api.MaxDepth {
		t.Error(p.Kind, p.Deep, p.At)
	}
	m = make1(t, "%%s: s 'x' | ")
	p = Parse(m.t, chars(strings.Repeat("x", api.MaxSteps)), most, most)
	if p.Kind != api.KLimit || p.Steps != api.MaxSteps || p.At != api.MaxSteps/2 {
		t.Error(p.Kind, p.Steps, p.At)
	}
	m = make1(t, "%%s: error 'y'")
	p = Parse(m.t, chars(strings.Repeat("x", api.MaxSteps)), most, most)
	if p.Kind != api.KLimit || len(p.Lost) != api.MaxSteps-1 {
		t.Error(p.Kind, p.Steps, p.At)
	}
}

// ambles tells the text of a small grammar into which error is put.
func ambles(seed int) string {
	s := sample.Small(seed)
	if seed%2 == 0 {
		s = strings.Replace(s, " 'z'", " error", 1+seed%3)
	}
	return strings.Replace(s, " ;", " | error 'y' ;", 1)
}

// lists tells lists of up to n numbers of tokens of a grammar.
func lists(g api.Grammar, n int) [][]int {
	all := [][]int{nil}
	for i := 0; i < len(all) && len(all[i]) < n; i++ {
		for tok := 3; tok < len(g.Toks); tok++ {
			all = append(all, append(slices.Clone(all[i]), g.Toks[tok].Num))
		}
		if len(all[i]) < 2 {
			all = append(all, append(slices.Clone(all[i]), 60000))
		}
	}
	return all
}

// checkDense is T1.
func checkDense(t *testing.T, s string, m made, list []int, p api.Parse, r api.Run) {
	t.Helper()
	ok := true
	if p.Kind == api.KAccept && len(p.Upsets) == 0 {
		ok = r.Kind == api.KAccept && slices.Equal(p.Prods, r.Prods) && p.Steps == r.Steps && p.Deep == r.Deep && p.At == r.At
	}
	if len(p.Upsets) > 0 {
		ok = ok && r.Kind == api.KError && r.At == p.Upsets[0].At
	}
	if r.Kind == api.KAccept {
		ok = ok && p.Kind == api.KAccept && len(p.Upsets) == 0
	}
	if r.Kind == api.KLimit {
		ok = ok && p.Kind == api.KLimit && len(p.Upsets) == 0
	}
	if !ok {
		t.Fatalf("%s: %v: %s; %v", s, list, show(m, p), r)
	}
}

// checkTree is T4.
func checkTree(t *testing.T, s string, m made, toks []int, p api.Parse) {
	t.Helper()
	if p.Kind != api.KAccept {
		if !reflect.DeepEqual(p.Tree, api.Node{}) {
			t.Fatalf("%s: %v: a tree", s, toks)
		}
		return
	}
	ok := tree.May(m.g, p.Tree) && p.Tree.Sym == m.g.Prods[0].Right[0] && p.At == len(toks)
	ats, syms := tree.Leaves(p.Tree), tree.Yield(p.Tree)
	last, errors, apart := -1, 0, false
	for i, sym := range syms {
		if sym == api.TError {
			errors++
			apart = true
			continue
		}
		ok = ok && ats[i] > last && toks[ats[i]] == sym && (apart || ats[i] == last+1)
		last, apart = ats[i], false
	}
	ok = ok && (apart || last == len(toks)-1) && errors <= len(p.Upsets) && (errors > 0) == (len(p.Upsets) > 0)
	if !ok {
		t.Fatalf("%s: %v: %s", s, toks, show(m, p))
	}
}

func TestTheorems(t *testing.T) {
	texts := sample.Texts()
	for seed := range 300 {
		texts = append(texts, ambles(seed), sample.Small(seed))
	}
	mended := 0
	for _, s := range texts {
		m := make1(t, s)
		for i, list := range lists(m.g, 4) {
			var toks []int
			for _, n := range list {
				toks = append(toks, nums.Tok(m.t.Nums, n))
			}
			depth, steps := 200, 400
			if i%3 == 0 {
				depth, steps = i%7, i%13
			}
			p := Parse(m.t, list, depth, steps)
			checkDense(t, s, m, list, p, dense.Run(m.g, m.d, toks, depth, steps))
			checkTree(t, s, m, toks, p)
			if p.Kind == api.KAccept && len(p.Upsets) > 0 {
				mended++
			}
			if p.Steps > steps || p.Deep > depth {
				t.Fatalf("%s: %v: %s", s, list, show(m, p))
			}
		}
	}
	if mended < 1000 {
		t.Errorf("%d went on behind an error", mended)
	}
}
