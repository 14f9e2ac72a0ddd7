package decode

import (
	"fmt"
	"math/rand"
	"reflect"
	"strings"
	"testing"

	"yucca/api"
	"yucca/auto"
	"yucca/cand"
	"yucca/emit"
	"yucca/look"
	"yucca/pack"
	"yucca/sample"
	"yucca/settle"
	"yucca/subst"
)

func TestList(t *testing.T) {
	for line, want := range map[string]string{
		"var a = []int{1, -2}":                      "a [1 -2]",
		"var yyDef = []int{}":                       "yyDef []",
		"var Z = []int{0}":                          "Z [0]",
		"var abcXYZ = []int{999999999, -999999999}": "abcXYZ [999999999 -999999999]",
		"var a = []int{0, 0, 10}":                   "a [0 0 10]",
	} {
		name, l, ok := List(line)
		if got := fmt.Sprint(name, " ", l); got != want || !ok {
			t.Errorf("%s: %s, %v", line, got, ok)
		}
	}
	for _, line := range []string{
		"", "var", "var ", "var = []int{}", "var  = []int{}", "var a1 = []int{}", "var a_ = []int{}", "var é = []int{}", "var a b = []int{}", "var a = []int{", "var a = []int}",
		" var a = []int{}", "var a = []int{} ", "var a = []int{}\n", "var a = []int{}}", "var a = []int{{}", "var a  = []int{}", "var a = []int {}", "Var a = []int{}", "var a = [] int{}",
		"var a = []int{1,2}", "var a = []int{1,  2}", "var a = []int{1, }", "var a = []int{, 1}", "var a = []int{ 1}", "var a = []int{1 }", "var a = []int{01}", "var a = []int{00}",
		"var a = []int{-0}", "var a = []int{-}", "var a = []int{--1}", "var a = []int{+1}", "var a = []int{-01}", "var a = []int{1000000000}", "var a = []int{-1000000000}",
		"var a = []int{1x}", "var a = []int{0x1}", "var a = []int{1_0}", "var a = []int{1, , 2}", "var a = []int{}, 1}", "var a = []int{1} = []int{2}", "const a = []int{}",
	} {
		if name, l, ok := List(line); name != "" || l != nil || ok {
			t.Errorf("%q: %s, %v, %v", line, name, l, ok)
		}
	}
}

func text(t *testing.T, s string) (string, api.Tables) {
	t.Helper()
	g, f := sample.Grammar(s)
	if f.Err != api.OK {
		t.Fatalf("%s: %v", s, f)
	}
	m, _ := auto.Of(g)
	d, _ := settle.Of(g, m, cand.Of(g, m, look.Of(g, m)))
	bodies, f := subst.All(g)
	if f.Err != api.OK {
		t.Fatalf("%s: %v", s, f)
	}
	x := pack.Of(g, d)
	return emit.Text(g, x, bodies), x
}

// same tells whether tables are the same, nil like empty.
func same(a, b api.Tables) bool { return fmt.Sprint(a) == fmt.Sprint(b) }

// TestTablesOfText is T6.
func TestTablesOfText(t *testing.T) {
	texts := append(sample.Texts(), "%{const a\nvar yyDef = []int{}\n%}%token A B 9%%a: A {\nconst\n} B%%\nvar yyDef = []int{}", "%{\n\n%}%%a:")
	for seed := range 300 {
		texts = append(texts, sample.Small(seed))
	}
	for _, s := range texts {
		code, want := text(t, s)
		if got, err := Tables(code); err != api.OK || !same(got, want) {
			t.Errorf("%s: %v, %d, not %v", s, got, err, want)
		}
	}
}

func TestWhatIsNotLookedAt(t *testing.T) {
	code, want := text(t, "%token A B%%a: A {} B%%tail")
	end := strings.Index(code, "func yyAction")
	for _, changed := range []string{
		code[:end], code[:end] + "const", code[:end] + "var yyDef", strings.Replace(code, "const A = 57346\n", "", 1), strings.Replace(code, "const A = 57346\n", "const \n", 1),
		strings.Replace(code, "const A = 57346\n", "const ?!\x00\nconst A\n", 1), strings.Replace(code, "yucca 0\n\n", "yucca 7\nconst \n\n", 1),
	} {
		if got, err := Tables(changed); err != api.OK || !same(got, want) {
			t.Errorf("%s: %d", changed, err)
		}
	}
}

func TestTablesOfOthers(t *testing.T) {
	code, _ := text(t, "%{12345%}%token A B%%a: A {} B%%tail")
	end := strings.Index(code, "func yyAction")
	for i, c := range [][2]string{
		{"// Code", "//Code"}, {"yucca 5", "yucca  5"}, {"yucca 5", "yucca 05"}, {"yucca 5", "yucca"}, {"yucca 5", "yucca "}, {"yucca 5", "yucca 4"}, {"yucca 5", "yucca 6"},
		{"yucca 5", "yucca 99999"}, {"yucca 5", "yucca 9999999999"}, {"yucca 5", "yucca 00000000005"}, {"yucca 5", "yucca -5"}, {"yucca 5", "yucca 5 "}, {"yucca 5", "yucca 99999999999999999999"},
		{"const A", " const A"}, {"const A", "cons A"}, {"const A", "\nconst A"}, {"const A", "// const A"}, {"yyDef", "yyDe"}, {"yyActBase", "yyActVal"},
		{"var yyLeft", "\nvar yyLeft"}, {"var yyLeft", "// x\nvar yyLeft"}, {"yyLen = []int{", "yyLen = []int{,"}, {"yyNumVal = []int{", "yyNumVal = []int{7, "}, {"yyNumAt = []int{", "yyNumAt = []int{7, "},
		{"var yyLeft", "const a\nvar yyLeft"}, {"}\nvar yyLeft", "} \nvar yyLeft"}, {"}\nvar yyLeft", "}\r\nvar yyLeft"},
	} {
		changed := strings.Replace(code, c[0], c[1], 1)
		if got, err := Tables(changed); changed == code || err != api.ErrForm || !reflect.DeepEqual(got, api.Tables{}) {
			t.Errorf("%d: %v: %d", i, c, err)
		}
	}
	for i := range end {
		if got, err := Tables(code[:i]); err != api.ErrForm || !reflect.DeepEqual(got, api.Tables{}) {
			t.Errorf("the first %d bytes: %d", i, err)
		}
	}
	if _, err := Tables("// Code made by yucca 5\n12345\nconst"); err != api.ErrForm {
		t.Error(err)
	}
}

func TestAnyTextEnds(t *testing.T) {
	code, _ := text(t, "%token A%%a: A")
	for seed := range int64(500) {
		rnd := rand.New(rand.NewSource(seed))
		b := []byte(code)
		for range 1 + rnd.Intn(3) {
			b[rnd.Intn(len(b))] = byte(rnd.Intn(256))
		}
		if got, err := Tables(string(b)); err != api.OK && !reflect.DeepEqual(got, api.Tables{}) {
			t.Fatalf("%q: %v, %d", b, got, err)
		}
	}
}

func TestListsAreNew(t *testing.T) {
	code, want := text(t, sample.Texts()[3])
	got, _ := Tables(code)
	for _, l := range [][]int{got.Def, got.Acts.Base, got.Acts.Val, got.Acts.Chk, got.GoDef, got.Gos.Base, got.Gos.Val, got.Gos.Chk, got.Left, got.Len} {
		_ = append(l, 77, 78)
	}
	if !same(got, want) {
		t.Error("lists share spare room")
	}
}
