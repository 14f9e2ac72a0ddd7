package gram

import (
	"fmt"
	"math"
	"reflect"
	"strings"
	"testing"

	"yucca/api"
	"yucca/read"
)

// source reads a text that has no fault.
func source(t *testing.T, s string) api.Source {
	t.Helper()
	x, f := read.Read(s)
	if f.Err != api.OK {
		t.Fatalf("%s: %v", s, f)
	}
	return x
}

func grammar(t *testing.T, s string) api.Grammar {
	t.Helper()
	g, f := Of(source(t, s))
	if f != (api.Fault{}) {
		t.Fatalf("%s: %v", s, f)
	}
	return g
}

func symNames(g api.Grammar, l []int) string {
	s := ""
	for _, x := range l {
		s += " " + Name(g, x)
	}
	return s
}

func showToks(g api.Grammar) string {
	s := ""
	for i, x := range g.Toks {
		s += fmt.Sprintf("%s=%d", Name(g, i), x.Num)
		if x.Level != 0 || x.Assoc != 0 {
			s += fmt.Sprintf("/%d.%d", x.Level, x.Assoc)
		}
		if x.Tag != "" {
			s += "<" + x.Tag + ">"
		}
		s += " "
	}
	return strings.TrimSuffix(s, " ")
}

func showNons(g api.Grammar) string {
	var l []string
	for _, x := range g.Nons {
		if x.Tag != "" {
			x.Name += "<" + x.Tag + ">"
		}
		l = append(l, x.Name)
	}
	return strings.Join(l, " ")
}

func showProds(g api.Grammar) string {
	var l []string
	for _, p := range g.Prods {
		l = append(l, fmt.Sprintf("%s:%s prec %d %s(%s)@%d", g.Nons[p.Left].Name, symNames(g, p.Right), p.Prec, p.Code, strings.TrimSpace(symNames(g, p.Args)), p.At))
	}
	return strings.Join(l, "\n")
}

func TestExample(t *testing.T) {
	g := grammar(t, "%left '+'\n%%\ne : e '+' e | 'x' ;")
	if s := showToks(g); s != "$end=0 error=-1 $unk=-1 '+'=43/1.1 'x'=120" {
		t.Error(s)
	}
	if s := showNons(g); s != "$accept e" {
		t.Error(s)
	}
	if s := showProds(g); s != "$accept: e prec -1 ()@0\ne: e '+' e prec 3 (e '+' e)@17\ne: 'x' prec 4 ('x')@27" {
		t.Error(s)
	}
}

func TestTokens(t *testing.T) {
	for s, want := range map[string]string{
		"%token A 5 B '+' C %left B %right A '*' %nonassoc error %%a:;": "$end=0 error=-1/3.3 $unk=-1 A=5/2.2 B=57346/1.1 '+'=43 C=57347 '*'=42/2.2",
		"%token <t> error %token A %token <u> A %token <u> A 9 %%a:;":   "$end=0 error=-1<t> $unk=-1 A=9<u>",
		"%left A %token A 8 %%a:;":                                      "$end=0 error=-1 $unk=-1 A=8/1.1",
		"%token B %%a: 'y' %prec 'z' | 'x' 'y' | '\\n' B %prec 'x';":    "$end=0 error=-1 $unk=-1 B=57346 'y'=121 'z'=122 'x'=120 '\\n'=10",
		"%type <v> a %left A %type <v> a %left <t> B %%a:;":             "$end=0 error=-1 $unk=-1 A=57346/1.1 B=57347/2.1<t>",
		"%token A 58 B 50000 '9' %%a: error;":                           "$end=0 error=-1 $unk=-1 A=58 B=50000 '9'=57",
		"%%a: {} 'p' {} 'q' %prec 'r' {};":                              "$end=0 error=-1 $unk=-1 'p'=112 'q'=113 'r'=114",
	} {
		if got := showToks(grammar(t, s)); got != want {
			t.Errorf("%s: %s, not %s", s, got, want)
		}
	}
}

func TestProductions(t *testing.T) {
	g := grammar(t, "%{pro%}%token A B %type <v> b %start b %%a: {1} A {2} b {3} %prec B | {4} | ; b: A b {5} {6} | b 'x' B b | b | error {7} a; a: {8} B%%tail")
	if s := showNons(g); s != "$accept a b<v> @1 @2 @3 @4 @5" {
		t.Error(s)
	}
	want := "$accept: b prec -1 ()@0\n@1: prec -1 {1}()@44\n@2: prec -1 {2}(@1 A)@50\na: @1 A @2 b prec 4 {3}(@1 A @2 b)@56\na: prec -1 {4}()@70\na: prec -1 ()@76\n" +
		"@3: prec -1 {5}(A b)@85\nb: A b @3 prec 3 {6}(A b @3)@89\nb: b 'x' B b prec 4 (b 'x' B b)@95\nb: b prec -1 (b)@107\n" +
		"@4: prec -1 {7}(error)@117\nb: error @4 a prec 1 (error @4 a)@111\n@5: prec -1 {8}()@127\na: @5 B prec 4 (@5 B)@127"
	if s := showProds(g); s != want {
		t.Errorf("%s\n\nnot\n\n%s", s, want)
	}
	if g.Pro != "pro" || g.Tail != "tail" {
		t.Error(g.Pro, g.Tail)
	}
	if g = grammar(t, "%%b:a; a:;"); showNons(g) != "$accept b a" || g.Prods[0].Right[0] != api.Non0+1 {
		t.Error(showNons(g))
	}
}

func TestForm(t *testing.T) {
	if g, f := Of(api.Source{}); f != (api.Fault{Err: api.ErrForm}) || !reflect.DeepEqual(g, api.Grammar{}) {
		t.Error(f)
	}
}

func TestFaultsOfNames(t *testing.T) {
	for s, want := range map[string]string{
		"%left A %right A %%a:;":                      "A@15",
		"%left A A %%a:;":                             "A@8",
		"%left '+' %nonassoc '+' %%a:;":               "+@20",
		"%left error error %%a:;":                     "error@12",
		"%token error 5 %%a:;":                        "error@7",
		"%token A 5 A 5 %%a:;":                        "A@11",
		"%token A 5 %token A 6 %%a:;":                 "A@18",
		"%token A 5 B 5 %%a:;":                        "B@11",
		"%token '+' A 43 %%a:;":                       "A@11",
		"%token A 43 '+' %%a:;":                       "+@12",
		"%token A 43 %left '+' %%a:;":                 "+@18",
		"%token <t> A %left <u> A %%a:;":              "A@23",
		"%token <t> error %left <u> error %%a:;":      "error@27",
		"%type <t> a %type <u> a %%a:;":               "a@22",
		"%type <t> a b a %type <v> b %%a:;":           "b@26",
		"%start a %start a %%a:;":                     "a@16",
		"%token A %%b:; A:;":                          "A@15",
		"%%b:; error:;":                               "error@6",
		"%type <t> a b %%a:;":                         "b@12",
		"%start b %%a:;":                              "b@7",
		"%token A %type <t> A %%a:A;":                 "A@19",
		"%start error %%a:;":                          "error@7",
		"%%a: b;":                                     "b@5",
		"%%a: 'x' b 'y';":                             "b@9",
		"%token A 43 %%a: '+';":                       "+@17",
		"%token A 43 %%a: %prec '+';":                 "+@23",
		"%%a: %prec a;":                               "a@11",
		"%%a: %prec b;":                               "b@11",
		"%%a: b %prec c;":                             "b@5",
		"%%a: %prec c {} | b;":                        "c@11",
		"%start b %left A A %%a: c; error:;":          "A@17", // the passes stand one behind the other
		"%type <t> z %%a: c; error:;":                 "error@20",
		"%type <t> z %%a: c;":                         "z@10",
		"%type <t> z %start a %start a %%a: c;":       "a@28",
		"%token A 43 B 43 %left <t> '+' %%a:;":        "B@12",
		"%token <t> A B 7 %token <u> C A B 8 %%a: x;": "A@30",
	} {
		g, f := Of(source(t, s))
		if got := fmt.Sprintf("%s@%d", f.Name, f.At); f.Err != api.ErrName || got != want || !reflect.DeepEqual(g, api.Grammar{}) {
			t.Errorf("%s: %v, not %s", s, f, want)
		}
	}
}

// many tells n texts that text makes of the numbers from 0 on.
func many(n int, text func(i int) string) string {
	s := ""
	for i := range n {
		s += text(i)
	}
	return s
}

func TestLimits(t *testing.T) {
	name := func(i int) string { return fmt.Sprintf(" n%d", i) }
	rule := func(i int) string { return fmt.Sprintf(" n%d:;", i) }
	for i, c := range []struct {
		at, above string
	}{
		{"%token" + many(37, name) + "%%a:;", "%token" + many(38, name) + "%%a:;"},
		{"%token" + many(36, name) + "%%a:'x';", "%token" + many(37, name) + "%%a:'x';"},
		{"%%" + many(23, rule), "%%" + many(24, rule)},
		{"%%" + many(21, rule) + "a:{}error;", "%%" + many(21, rule) + "a:{}{}error;"},
		{"%%a:" + strings.Repeat("|", 58), "%%a:" + strings.Repeat("|", 59)},
		{"%%a:" + strings.Repeat(" a", 8), "%%a:" + strings.Repeat(" a", 9)},
		{"%%a:" + strings.Repeat(" {}", 9), "%%a:" + strings.Repeat(" {}", 10)},
	} {
		if _, f := Of(source(t, c.at)); f != (api.Fault{}) {
			t.Errorf("%d: %v", i, f)
		}
		if g, f := Of(source(t, c.above)); f != (api.Fault{Err: api.ErrLimit}) || !reflect.DeepEqual(g, api.Grammar{}) {
			t.Errorf("%d: %v", i, f)
		}
	}
	if _, f := Of(source(t, "%%a:"+strings.Repeat(" a", 9)+" b")); f.Err != api.ErrName {
		t.Error("a limit ahead of a name")
	}
}

func TestName(t *testing.T) {
	g := grammar(t, "%token A '\\n'%%a: {} 'x';")
	for sym, want := range map[int]string{0: "$end", 1: "error", 2: "$unk", 3: "A", 4: `'\n'`, 5: "'x'", 6: "", -1: "", api.Non0: "$accept", api.Non0 + 1: "a", api.Non0 + 2: "@1",
		api.Non0 + 3: "", api.Non0 - 1: "", math.MaxInt: "", math.MinInt: ""} {
		if s := Name(g, sym); s != want {
			t.Errorf("%d: %s", sym, s)
		}
	}
}

func TestListsAreNew(t *testing.T) {
	x := source(t, "%%a: 'x' {1} 'y' 'z' {2};")
	before := grammar(t, "%%a: 'x' {1} 'y' 'z' {2};")
	g, _ := Of(x)
	for _, p := range g.Prods {
		_ = append(p.Right, 77, 78, 79)
		_ = append(p.Args, 77, 78, 79)
	}
	if !reflect.DeepEqual(g, before) {
		t.Error("lists share spare room")
	}
	for _, p := range g.Prods {
		for i := range p.Args {
			p.Args[i] = 50
		}
	}
	if r := g.Prods[2].Right; fmt.Sprint(r) != "[3 1002 4 5]" {
		t.Error(r)
	}
	g.Toks[3].Num = 9
	if again, _ := Of(x); !reflect.DeepEqual(again, before) {
		t.Error("a told grammar changes the source")
	}
}
