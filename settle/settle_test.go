package settle

import (
	"fmt"
	"strings"
	"testing"

	"yucca/api"
	"yucca/auto"
	"yucca/cand"
	"yucca/gram"
	"yucca/look"
	"yucca/prec"
	"yucca/sample"
)

func made(t *testing.T, s string) (api.Grammar, []api.State, []api.Cell) {
	t.Helper()
	g, f := sample.Grammar(s)
	if f.Err != api.OK {
		t.Fatalf("%s: %v", s, f)
	}
	m, _ := auto.Of(g)
	return g, m, cand.Of(g, m, look.Of(g, m))
}

func show(g api.Grammar, d api.Dense) string {
	var l []string
	for q, row := range d.Acts {
		for tok, a := range row {
			if a != (api.Act{}) {
				l = append(l, fmt.Sprintf("%d %s %s%d", q, gram.Name(g, tok), []string{"none", "s", "r", "acc", "never"}[a.Kind], a.N))
			}
		}
	}
	return strings.Join(l, ", ")
}

func TestOf(t *testing.T) {
	const rules = "%%e: e '+' e | 'x'"
	for _, c := range []struct{ s, acts, clashes string }{
		{rules, "0 'x' s1, 1 $end r2, 1 '+' r2, 2 $end acc0, 2 '+' s3, 3 'x' s1, 4 $end r1, 4 '+' s3", "[{4 3 -1 1}]"},
		{"%left '+' " + rules, "0 'x' s1, 1 $end r2, 1 '+' r2, 2 $end acc0, 2 '+' s3, 3 'x' s1, 4 $end r1, 4 '+' r1", "[]"},
		{"%right '+' " + rules, "0 'x' s1, 1 $end r2, 1 '+' r2, 2 $end acc0, 2 '+' s3, 3 'x' s1, 4 $end r1, 4 '+' s3", "[]"},
		{"%nonassoc '+' " + rules, "0 'x' s1, 1 $end r2, 1 '+' r2, 2 $end acc0, 2 '+' s3, 3 'x' s1, 4 $end r1, 4 '+' never0", "[]"},
		{"%left '+' 'p' %%e: e '+' e %prec 'q' | 'x'", "0 'x' s1, 1 $end r2, 1 '+' r2, 2 $end acc0, 2 '+' s3, 3 'x' s1, 4 $end r1, 4 '+' s3", "[{4 3 -1 1}]"},
		{"%left '+' %left 'p' %%e: e '+' e %prec 'p' | 'x'", "0 'x' s1, 1 $end r2, 1 '+' r2, 2 $end acc0, 2 '+' s3, 3 'x' s1, 4 $end r1, 4 '+' r1", "[]"},
		{"%left 'p' %nonassoc '+' %%e: e '+' e %prec 'p' | 'x'", "0 'x' s1, 1 $end r2, 1 '+' r2, 2 $end acc0, 2 '+' s3, 3 'x' s1, 4 $end r1, 4 '+' s3", "[]"},
		{"%%s: a | b | c; a: ; b: ; c:", "0 $end r4, 1 $end acc0, 2 $end r1, 3 $end r2, 4 $end r3", "[{0 0 4 5} {0 0 4 6}]"},
		{"%%s: s | t; t: ", "0 $end r3, 1 $end acc0, 2 $end r2", "[{1 0 -1 1}]"},
		{"%%s: a 'x' | b 'x' | 'x'; a: ; b: ", "0 'x' s1, 1 $end r3, 2 $end acc0, 3 'x' s5, 4 'x' s6, 5 $end r1, 6 $end r2", "[{0 3 4 5} {0 3 -1 4}]"},
		{"%left 'y' %left 'x' %%s: a 'x' | b 'x' | 'x'; a: %prec 'y'; b: ", "0 'x' s1, 1 $end r3, 2 $end acc0, 3 'x' s5, 4 'x' s6, 5 $end r1, 6 $end r2", "[{0 4 4 5}]"},
		{"%left 'x' 'y' %%s: a 'x' | b 'x' | 'x'; a: %prec 'y'; b: ", "0 'x' r4, 1 $end r3, 2 $end acc0, 3 'x' s5, 4 'x' s6, 5 $end r1, 6 $end r2", "[{0 3 4 5}]"},
		{"%nonassoc 'x' 'y' %%s: a 'x' | b 'x' | 'x'; a: %prec 'y'; b: ", "0 'x' never0, 1 $end r3, 2 $end acc0, 3 'x' s5, 4 'x' s6, 5 $end r1, 6 $end r2", "[{0 3 4 5}]"},
	} {
		g, m, cells := made(t, c.s)
		d, l := Of(g, m, cells)
		if got := show(g, d); got != c.acts || fmt.Sprint(l) != c.clashes {
			t.Errorf("%s: %s; %v\nnot %s; %s", c.s, got, l, c.acts, c.clashes)
		}
	}
}

func TestGotos(t *testing.T) {
	g, m, cells := made(t, "%%e: e '+' t | t; t: 'x'")
	d, _ := Of(g, m, cells)
	if s := fmt.Sprint(d.Gotos); s != "[[-1 2 3] [-1 -1 -1] [-1 -1 -1] [-1 -1 -1] [-1 -1 5] [-1 -1 -1]]" {
		t.Error(s)
	}
	for _, row := range d.Acts {
		if len(row) != len(g.Toks) {
			t.Error(row)
		}
	}
}

func TestCount(t *testing.T) {
	a, b := Count([]api.Clash{{Keep: -1, Drop: 3}, {Keep: 0, Drop: -1}, {Keep: 2}, {Keep: -1}, {Keep: -2}})
	if a != 2 || b != 3 {
		t.Error(a, b)
	}
	if a, b = Count(nil); a != 0 || b != 0 {
		t.Error(a, b)
	}
}

// byWords tells the act of a cell and its conflicts as the words say.
func byWords(g api.Grammar, c api.Cell) (api.Act, []api.Clash) {
	var l []api.Clash
	for _, p := range c.Prods[min(1, len(c.Prods)):] {
		l = append(l, api.Clash{State: c.State, Tok: c.Tok, Keep: c.Prods[0], Drop: p})
	}
	act := api.Act{}
	switch {
	case c.Accept:
		act.Kind = api.AAccept
	case len(c.Prods) == 0:
		act = api.Act{Kind: api.AShift, N: c.Shift}
	case c.Shift < 0:
		act = api.Act{Kind: api.AReduce, N: c.Prods[0]}
	default:
		act = map[int]api.Act{api.VOpen: {Kind: api.AShift, N: c.Shift}, api.VShift: {Kind: api.AShift, N: c.Shift}, api.VReduce: {Kind: api.AReduce, N: c.Prods[0]},
			api.VNever: {Kind: api.ANever}}[prec.Decide(g, c.Prods[0], c.Tok)]
	}
	open := c.Shift >= 0 && len(c.Prods) > 0 && prec.Decide(g, c.Prods[0], c.Tok) == api.VOpen
	if open || c.Accept && len(c.Prods) > 0 {
		l = append(l, api.Clash{State: c.State, Tok: c.Tok, Keep: -1, Drop: c.Prods[0]})
	}
	return act, l
}

func TestWordsHold(t *testing.T) {
	texts := sample.Texts()
	for seed := range 400 {
		texts = append(texts, sample.Small(seed))
	}
	for _, s := range texts {
		g, m, cells := made(t, s)
		d, l := Of(g, m, cells)
		filled := 0
		for _, c := range cells {
			act, clashes := byWords(g, c)
			if d.Acts[c.State][c.Tok] != act || len(l) < len(clashes) || fmt.Sprint(l[:len(clashes)]) != fmt.Sprint(clashes) {
				t.Fatalf("%s: %v: %v, %v", s, c, d.Acts[c.State][c.Tok], l)
			}
			l = l[len(clashes):]
			filled++
		}
		if len(l) > 0 {
			t.Fatalf("%s: %v", s, l)
		}
		for _, row := range d.Acts {
			for _, a := range row {
				if a.Kind != api.ANone {
					filled--
				}
			}
		}
		if filled != 0 {
			t.Fatalf("%s: %d acts too few", s, filled)
		}
	}
}
