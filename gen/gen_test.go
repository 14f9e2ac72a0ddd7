package gen

import (
	"fmt"
	"math"
	"reflect"
	"slices"
	"strings"
	"testing"

	"yucca/api"
	"yucca/auto"
	"yucca/cand"
	"yucca/decode"
	"yucca/dense"
	"yucca/drive"
	"yucca/emit"
	"yucca/look"
	"yucca/many"
	"yucca/nums"
	"yucca/pack"
	"yucca/report"
	"yucca/sample"
	"yucca/settle"
	"yucca/subst"
	"yucca/tree"
	"yucca/vain"
)

func generate(t *testing.T, s string) *Result {
	t.Helper()
	r, f := Generate(s)
	if f != (api.Fault{}) || r == nil {
		t.Fatalf("%s: %v", s, f)
	}
	return r
}

func TestExample(t *testing.T) {
	r := generate(t, "%%\ns : 'x' ;\n")
	if r.Raw() != 0 {
		t.Error(r.Raw())
	}
	if a, b := r.Made(); a != 0 || b != 0 {
		t.Error(a, b)
	}
	first := r.Text()
	if r.Text() != first || first == "" {
		t.Error(first)
	}
	if a, b := r.Made(); a != 1 || b != 0 {
		t.Error(a, b)
	}
	if r.Report() != r.Report() || r.Text() != first {
		t.Error("texts change")
	}
	if a, b := r.Made(); a != 1 || b != 1 {
		t.Error(a, b)
	}
}

func TestReportAlone(t *testing.T) {
	r := generate(t, "%%\ns : 'x' ;\n")
	r.Report()
	if a, b := r.Made(); a != 0 || b != 1 {
		t.Error(a, b)
	}
}

// states tells alternatives of eight tokens each: eight states each.
func states(n int) string {
	s := ""
	for i := range n {
		s += fmt.Sprintf(" | '%c' 'x' 'x' 'x' 'x' 'x' 'x' 'x'", 'A'+i)
	}
	return s
}

func TestFaults(t *testing.T) {
	for s, want := range map[string]api.Fault{
		"":                        {Err: api.ErrSyntax},
		"%% a : ?":                {Err: api.ErrSyntax, At: 7},
		strings.Repeat(" ", 4001): {Err: api.ErrLimit},
		"%% a : b v; v : v":       {Err: api.ErrName, At: 7, Name: "b"},
		"%% a : | 'x' w; b : w; w : v {} w | w; v : v; w : 'x' v": {Err: api.ErrVain, At: 16, Name: "b"},
		"%% a : ; v : v":                            {Err: api.ErrVain, At: 9, Name: "v"},
		"%% a : a":                                  {Err: api.ErrVain, At: 3, Name: "a"},
		"%% b : a | ; a : {} a 'x' {$9}":            {Err: api.ErrVain, At: 13, Name: "a"},
		"%% a : 'x' {$2}":                           {Err: api.ErrRange, At: 11, Name: "$2"},
		"%% a : 'x' {$1 $1234} | {$1}":              {Err: api.ErrRange, At: 11},
		"%% a : 'x' {$2}" + states(18) + " 'y'":     {Err: api.ErrLimit},
		"%% a : 'x' {$2}" + states(19):              {Err: api.ErrRange, At: 11, Name: "$2"},
		"%% a : 'x' {$1}" + states(19):              {Err: api.ErrLimit},
		"%% a : 'x' {$1} v" + states(19) + "; v: v": {Err: api.ErrVain, At: 665, Name: "v"},
	} {
		r, f := Generate(s)
		if r != nil || f != want {
			t.Errorf("%s: %v, not %v", s, f, want)
		}
	}
}

// texts tells sources of which tables are made.
func texts(n int) []string {
	var l []string
	for seed := range n {
		l = append(l, sample.Small(seed))
	}
	return slices.DeleteFunc(append(l, sample.Texts()...), func(s string) bool {
		r, _ := Generate(s)
		return r == nil
	})
}

func TestOneOfAnother(t *testing.T) {
	for _, s := range texts(100) {
		r := generate(t, s)
		g, _ := sample.Grammar(s)
		m, _ := auto.Of(g)
		looks := look.Of(g, m)
		cells := cand.Of(g, m, looks)
		d, clashes := settle.Of(g, m, cells)
		x := pack.Of(g, d)
		bodies, _ := subst.All(g)
		for i, c := range [][2]any{
			{r.Grammar(), g}, {r.States(), m}, {r.Looks(), looks}, {r.Cells(), cells}, {r.Dense(), d}, {r.Clashes(), clashes}, {r.Tables(), x}, {r.Raw(), cand.Raw(cells)},
			{r.Text(), emit.Text(g, x, bodies)}, {r.Report(), report.Text(g, m, d, clashes)},
			{r.Parse([]int{'x', 'y', 'z'}, 20, 50), drive.Parse(x, []int{'x', 'y', 'z'}, 20, 50)}, {r.Run([]int{3, 4, 3}, 20, 50), dense.Run(g, d, []int{3, 4, 3}, 20, 50)},
		} {
			if fmt.Sprint(c[0]) != fmt.Sprint(c[1]) {
				t.Fatalf("%s: %d: %v, not %v", s, i, c[0], c[1])
			}
		}
		if got, err := decode.Tables(r.Text()); err != api.OK || fmt.Sprint(got) != fmt.Sprint(x) {
			t.Fatalf("%s: %d", s, err)
		}
	}
}

// spoil writes into all lists of a value, spare room too.
func spoil(v reflect.Value) {
	switch v.Kind() {
	case reflect.Slice:
		whole := v.Slice(0, v.Cap())
		for i := range whole.Len() {
			spoil(whole.Index(i))
			whole.Index(i).SetZero()
		}
	case reflect.Struct:
		for i := range v.NumField() {
			spoil(v.Field(i))
		}
	}
}

func TestWhatIsToldIsNew(t *testing.T) {
	for _, s := range sample.Texts() {
		r, f := Generate(s)
		if f.Err != api.OK {
			continue
		}
		tell := func() []any {
			return []any{r.Grammar(), r.States(), r.Looks(), r.Cells(), r.Dense(), r.Clashes(), r.Tables(), r.Parse([]int{'x', '+', 'x'}, 50, 50), r.Run([]int{4, 3, 4}, 50, 50), r.Raw(), r.Bound()}
		}
		before := fmt.Sprint(tell())
		for _, x := range tell() {
			spoil(reflect.ValueOf(x))
		}
		if after := fmt.Sprint(tell()); after != before {
			t.Fatalf("%s: %s, not %s", s, after, before)
		}
		fresh := generate(t, s)
		if r.Text() != fresh.Text() || r.Report() != fresh.Report() {
			t.Fatalf("%s: texts change", s)
		}
	}
}

func TestBound(t *testing.T) {
	for s, want := range map[string]int{
		"%%s: 'x'":                     4 * 5 * 4 * 3 * 2,
		"%%e: e '+' 'x' | 'x'":         4 * 7 * 4 * 5 * 2,
		"%%a: b b; b: ":                4 * (4 + 2) * 5 * 4 * 6,
		"%%e: e '+' e | 'x'":           0,
		"%left '+' %%e: e '+' e | 'x'": 0,
		"%%a: a | 'x'":                 0,
		"%%a: 'x' b | ; b: b | ;":      0,
	} {
		r := generate(t, s)
		if got := r.Bound(); got != want {
			t.Errorf("%s: %d, not %d", s, got, want)
		}
	}
}

// lists tells lists of up to n tokens.
func lists(g api.Grammar, n int) [][]int {
	all := [][]int{nil}
	for i := 0; i < len(all) && len(all[i]) < n; i++ {
		for tok := 3; tok < len(g.Toks); tok++ {
			all = append(all, append(slices.Clone(all[i]), tok))
		}
	}
	return all
}

// TestWithinTheBound is P31.4.
func TestWithinTheBound(t *testing.T) {
	n, accepted := 0, 0
	for _, s := range texts(600) {
		r := generate(t, s)
		bound := r.Bound()
		g := r.Grammar()
		if (bound > 0) != (r.Raw() == 0 && !slices.Contains(vain.Empty(g), -1)) {
			t.Fatalf("%s: %d", s, bound)
		}
		if bound == 0 {
			continue
		}
		n++
		for _, toks := range lists(g, 4) {
			var list []int
			for _, tok := range toks {
				list = append(list, g.Toks[tok].Num)
			}
			limit := bound * (len(list) + 1)
			p := r.Parse(list, limit, limit)
			clean := p.Kind == api.KAccept && len(p.Upsets) == 0
			count := many.Count(g, g.Prods[0].Right[0], toks)
			if p.Kind == api.KLimit || clean != (count == 1) || count == 2 {
				t.Fatalf("%s: %v: %v, %d", s, toks, p, count)
			}
			if clean {
				accepted++
			}
			more := r.Parse(list, math.MaxInt, math.MaxInt)
			if !reflect.DeepEqual(p, more) {
				t.Fatalf("%s: %v: %v, not %v", s, toks, p, more)
			}
		}
	}
	if n < 40 || accepted < 100 {
		t.Errorf("%d, %d alone", n, accepted)
	}
}

// ops is a grammar as T3's, with levels from 1 on.
const ops = "%left '+' '-' %right '=' '^' %nonassoc '<' %left '*' %% e: e '+' e | e '-' e | e '=' e | e '^' e | e '<' e | e '*' e | '(' e ')' | 'x'"

// top tells the operation at the root of a tree; 0: another one is there.
func top(x api.Node) int {
	if len(x.Kids) == 3 && x.Kids[0].Sym >= api.Non0 {
		return x.Kids[1].Sym
	}
	return 0
}

// fits tells whether a tree is the one that T3 tells.
func fits(g api.Grammar, x api.Node) bool {
	for _, k := range x.Kids {
		if !fits(g, k) {
			return false
		}
	}
	op := g.Toks[top(x)]
	if top(x) == 0 {
		return true
	}
	for i, assoc := range map[int]int{0: api.ALeft, 2: api.ARight} {
		kid := top(x.Kids[i])
		if kid != 0 && (g.Toks[kid].Level < op.Level || g.Toks[kid].Level == op.Level && op.Assoc != assoc) {
			return false
		}
	}
	return true
}

// trees tells all trees of the tokens.
func trees(g api.Grammar, toks []int, at int) []api.Node {
	var l []api.Node
	leaf := func(i int) api.Node { return api.Node{Sym: toks[i], Prod: -1, At: at + i} }
	n := len(toks)
	for p, prod := range g.Prods[1:] {
		node := api.Node{Sym: 1001, Prod: p + 1, At: -1}
		switch {
		case len(prod.Right) == 1:
			if n == 1 && toks[0] == prod.Right[0] {
				node.Kids = []api.Node{leaf(0)}
				l = append(l, node)
			}
		case prod.Right[0] < api.Non0:
			if n > 2 && toks[0] == prod.Right[0] && toks[n-1] == prod.Right[2] {
				for _, x := range trees(g, toks[1:n-1], at+1) {
					node.Kids = []api.Node{leaf(0), x, leaf(n - 1)}
					l = append(l, node)
				}
			}
		default:
			for i := 1; i < n-1; i++ {
				if toks[i] != prod.Right[1] {
					continue
				}
				for _, x := range trees(g, toks[:i], at) {
					for _, y := range trees(g, toks[i+1:], at+i+1) {
						node.Kids = []api.Node{x, leaf(i), y}
						l = append(l, node)
					}
				}
			}
		}
	}
	return l
}

// expressions tells texts of operations, x and brackets.
func expressions() []string {
	l := []string{"x", "(x)", "((x))", "", "(", "x)", "+x", "x+", "()"}
	const signs = "+-=^<*"
	for i := range signs {
		l = append(l, "x"+signs[i:i+1]+"x")
		for j := range signs {
			a, b := signs[i:i+1], signs[j:j+1]
			l = append(l, "x"+a+"x"+b+"x", "(x"+a+"x)"+b+"x", "x"+a+"(x"+b+"x)")
			for k := range signs {
				l = append(l, "x"+a+"x"+b+"x"+signs[k:k+1]+"x", "x"+a+"(x"+b+"x)"+signs[k:k+1]+"x")
			}
		}
	}
	return l
}

// TestLevels is T3.
func TestLevels(t *testing.T) {
	r := generate(t, ops)
	g := r.Grammar()
	if len(r.Clashes()) != 0 || r.Bound() != 0 {
		t.Error(r.Clashes(), r.Bound())
	}
	for _, s := range expressions() {
		var list, toks []int
		for _, c := range []byte(s) {
			list = append(list, int(c))
			toks = append(toks, nums.Tok(r.Tables().Nums, int(c)))
		}
		want := slices.DeleteFunc(trees(g, toks, 0), func(x api.Node) bool { return !fits(g, x) })
		p := r.Parse(list, 1000, 1000)
		if len(want) > 1 {
			t.Fatalf("%s: %d trees fit", s, len(want))
		}
		if len(want) == 0 {
			if p.Kind != api.KError {
				t.Errorf("%s: %s", s, tree.Text(g, p.Tree))
			}
			continue
		}
		if p.Kind != api.KAccept || !reflect.DeepEqual(p.Tree, want[0]) {
			t.Errorf("%s: %s, not %s", s, tree.Text(g, p.Tree), tree.Text(g, want[0]))
		}
	}
}

func TestAnyTextHasTablesOrAFault(t *testing.T) {
	for _, s := range sample.Texts() {
		for i := range len(s) {
			for _, changed := range []string{s[:i], s[:i] + s[i+1:], s[:i] + "%" + s[i:], s[:i] + "'" + s[i+1:]} {
				r, f := Generate(changed)
				if (r == nil) != (f.Err != api.OK) || f.At < 0 || f.At > len(changed) || f.Err == api.OK && f != (api.Fault{}) {
					t.Fatalf("%s: %v", changed, f)
				}
			}
		}
	}
}
