package emit

import (
	"math"
	"testing"

	"yucca/api"
	"yucca/auto"
	"yucca/cand"
	"yucca/look"
	"yucca/pack"
	"yucca/sample"
	"yucca/settle"
	"yucca/subst"
)

func made(t *testing.T, s string) (api.Grammar, api.Tables, []string) {
	t.Helper()
	g, f := sample.Grammar(s)
	if f.Err != api.OK {
		t.Fatalf("%s: %v", s, f)
	}
	m, _ := auto.Of(g)
	d, _ := settle.Of(g, m, cand.Of(g, m, look.Of(g, m)))
	bodies, f := subst.All(g)
	if f.Err != api.OK {
		t.Fatalf("%s: %v", s, f)
	}
	return g, pack.Of(g, d), bodies
}

const lists = `var yyDef = []int{-1, 2, -1, -1, 1}
var yyActBase = []int{0, 0, 0, 1, 0}
var yyActVal = []int{20001, 0, 0, 4, 2, 5}
var yyActChk = []int{3, 0, 0, 3, 1, 4}
var yyGoDef = []int{-1, 2}
var yyGoBase = []int{0, 0}
var yyGoVal = []int{}
var yyGoChk = []int{}
var yyLeft = []int{0, 1, 1}
var yyLen = []int{1, 3, 1}
`

func TestText(t *testing.T) {
	for s, want := range map[string]string{
		"%%e: e '+' 'x' | 'x'": "// Code made by yucca 0\n\n" + lists + `var yyNumAt = []int{43, 120}
var yyNumVal = []int{3, 4}
func yyAction(p int, yyDollar []yySymType, yyVAL yySymType) yySymType {
	switch p {
	}
	return yyVAL
}
`,
		"%{package p\n\nvar x int%}%token <v> '+' %type <w> e %left A %%e: e '+' A {$$ = $1 + $3\n} | A {}%%\nfunc f() {}": "// Code made by yucca 20\npackage p\n\nvar x int\nconst A = 57346\n" + lists +
			`var yyNumAt = []int{43, 57346}
var yyNumVal = []int{3, 4}
func yyAction(p int, yyDollar []yySymType, yyVAL yySymType) yySymType {
	switch p {
	case 1:
		{yyVAL.w = yyDollar[1].w + yyDollar[3]
}
	case 2:
		{}
	}
	return yyVAL
}

func f() {}`,
	} {
		if got := Text(made(t, s)); got != want {
			t.Errorf("%s: %s\nnot\n%s", s, got, want)
		}
	}
}

func TestConstants(t *testing.T) {
	g, x, bodies := made(t, "%token B 7 '+' A error C.d 9 %%e: A B 'x'")
	got := Text(g, x, bodies)
	want := "// Code made by yucca 0\n\nconst B = 7\nconst A = 57346\nconst C.d = 9\nvar yyDef"
	if len(got) < len(want) || got[:len(want)] != want {
		t.Error(got)
	}
}

func TestList(t *testing.T) {
	for want, c := range map[string]struct {
		name string
		l    []int
	}{
		"var yyDef = []int{-1, 2}": {"yyDef", []int{-1, 2}},
		"var  = []int{}":           {"", nil},
		"var a b = []int{0, 9223372036854775807, -9223372036854775808}": {"a b", []int{0, math.MaxInt, math.MinInt}},
	} {
		if got := List(c.name, c.l); got != want {
			t.Errorf("%s, not %s", got, want)
		}
	}
}
