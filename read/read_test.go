package read

import (
	"fmt"
	"reflect"
	"strings"
	"testing"

	"yucca/api"
)

func showSym(s api.Sym) string {
	n := s.Name
	if s.Lit {
		n = fmt.Sprintf("%q", s.Name)
	}
	if s.Num != 0 {
		n += fmt.Sprintf("=%d", s.Num)
	}
	return fmt.Sprintf("%s@%d", n, s.At)
}

// show tells a source in short, each part with its place.
func show(x api.Source) string {
	var b strings.Builder
	fmt.Fprintf(&b, "%q", x.Pro)
	for _, d := range x.Decls {
		fmt.Fprintf(&b, " %d<%s>@%d(", d.Kind, d.Tag, d.At)
		for _, s := range d.Syms {
			b.WriteString(" " + showSym(s))
		}
		b.WriteString(" )")
	}
	for _, r := range x.Rules {
		fmt.Fprintf(&b, " %s@%d:", r.Left, r.At)
		for _, a := range r.Alts {
			fmt.Fprintf(&b, " [@%d", a.At)
			for _, p := range a.Parts {
				if p.Code != "" {
					fmt.Fprintf(&b, " %s@%d", p.Code, p.At)
					if p.Sym != (api.Sym{}) {
						b.WriteString("!")
					}
					continue
				}
				b.WriteString(" " + showSym(p.Sym))
				if p.At != p.Sym.At {
					b.WriteString("!")
				}
			}
			if a.Prec != (api.Sym{}) {
				b.WriteString(" prec " + showSym(a.Prec))
			}
			b.WriteString("]")
		}
	}
	return b.String() + fmt.Sprintf(" %q", x.Tail)
}

func TestRead(t *testing.T) {
	for s, want := range map[string]string{
		"%%a:'x'|a 'y'":                      `"" a@2: [@4 "x"@4] [@8 a@8 "y"@10] ""`,
		"%%a:":                               `"" a@2: [@4] ""`,
		"%%a:|;b:;":                          `"" a@2: [@4] [@5] b@6: [@8] ""`,
		"%% a : b : c : ":                    `"" a@3: [@7] b@7: [@11] c@11: [@15] ""`,
		"%% a : x y : z":                     `"" a@3: [@7 x@7] y@9: [@13 z@13] ""`,
		"%% a : {1} x {2} %prec 'p' {3} |":   `"" a@3: [@7 {1}@7 x@11 {2}@13 {3}@27 prec "p"@23] [@32] ""`,
		"%% a : %prec b c : ;":               `"" a@3: [@7 prec b@13] c@15: [@19] ""`,
		"%% a : %prec b {1} c : ;":           `"" a@3: [@7 {1}@15 prec b@13] c@19: [@23] ""`,
		"%% a : x ; a : y %% tail":           `"" a@3: [@7 x@7] a@11: [@15 y@15] " tail"`,
		"%%a:%%%%":                           `"" a@2: [@6] "%%"`,
		"%{ p %}%%a:":                        `" p " a@9: [@11] ""`,
		"%start s %{%} %token A %%a:":        `"" 6<>@0( s@7 ) 1<>@14( A@21 ) a@25: [@27] ""`,
		"%token <t> A 5 'x' B C 50000 %%a:":  `"" 1<t>@0( A=5@11 "x"@15 B@19 C=50000@21 ) a@31: [@33] ""`,
		"%left '+' A %right <u> B %%a:":      `"" 2<>@0( "+"@6 A@10 ) 3<u>@12( B@23 ) a@27: [@29] ""`,
		"%nonassoc A %type <v> e f %%a:":     `"" 4<>@0( A@10 ) 5<v>@12( e@22 f@24 ) a@28: [@30] ""`,
		"%start a %start b %%a:":             `"" 6<>@0( a@7 ) 6<>@9( b@16 ) a@20: [@22] ""`,
		"%%a:error '\\n' /*x*/ |//y\n b{}{}": `"" a@2: [@4 error@4 "\n"@10] [@27 b@27 {}@28 {}@30] ""`,
	} {
		x, f := Read(s)
		if got := show(x); got != want || f != (api.Fault{}) {
			t.Errorf("%s: %s, %v, not %s", s, got, f, want)
		}
	}
}

func TestFaults(t *testing.T) {
	for s, at := range map[string]int{
		"": 0, "  ": 2, "%%": 2, "%% ": 3, "%% %% x": 5, "a": 0, "%token A": 8, "%token %%a:": 7, "%token": 6, "%token <t> %%a:": 11, "%token <t> <u> A": 11,
		"%token 5": 7, "%token A 5 6": 11, "%token 'x' 5": 11, "%left A 5": 8, "%left <t> 5": 10, "%token A ;": 9,
		"%type a": 6, "%type <t>": 9, "%type <t> 'x'": 10, "%type <t> a 'x'": 12, "%type <t> a 5": 12,
		"%start": 6, "%start 'x'": 7, "%start <t> a": 7, "%start a b": 9, "%start a 'b'": 9, "%prec a": 0, "%{%} %{%}": 5, "{}": 0, "'x'": 0, ": ": 0,
		"%%'x'": 2, "%% a b": 5, "%% a 'x'": 5, "%% a ;": 5, "%% a": 4, "%% a : :": 7, "%% a : 'x' :": 11, "%% a : x ; ;": 11, "%% a : ; b": 10,
		"%% a : ; b c": 11, "%% a : %prec": 12, "%% a : %prec ;": 13, "%% a : %prec {1}": 13, "%% a : %prec b :": 15, "%% a : %prec b %prec c": 15,
		"%% a : %prec b 'c'": 15, "%% a : %prec b c d": 17, "%% a : %prec b {1} {2}": 19, "%% a : %prec b {1} 'c'": 19, "%% a : %prec b {1} c d": 21,
		"%% a : %prec b {1} %prec c": 19, "%% a : 5": 7, "%% a : <t>": 7, "%% a : %token": 7, "%% a : %{%}": 7, "%% a : x | %left": 11, "%% ; a :": 3, "%% | a": 3,
		"%% a : %prec error : ": 19, "%% a : x {1} : ": 13,
	} {
		x, f := Read(s)
		if f != (api.Fault{Err: api.ErrSyntax, At: at}) || !reflect.DeepEqual(x, api.Source{}) {
			t.Errorf("%s: %v, not at %d", s, f, at)
		}
	}
}

func TestFaultsOfWords(t *testing.T) {
	if x, f := Read("a ?"); f != (api.Fault{Err: api.ErrSyntax, At: 2}) || !reflect.DeepEqual(x, api.Source{}) {
		t.Error(f)
	}
	if _, f := Read(strings.Repeat(" ", api.MaxText+1)); f != (api.Fault{Err: api.ErrLimit}) {
		t.Error(f)
	}
}
