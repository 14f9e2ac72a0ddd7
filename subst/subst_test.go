package subst

import (
	"fmt"
	"math"
	"testing"

	"yucca/api"
	"yucca/sample"
)

func grammar(t *testing.T, s string) api.Grammar {
	t.Helper()
	g, f := sample.Grammar(s)
	if f.Err != api.OK {
		t.Fatalf("%s: %v", s, f)
	}
	return g
}

func TestBody(t *testing.T) {
	for _, c := range []struct {
		s    string
		p    int
		want string
	}{
		{"%type <v> e %%e: e e {$$ = $1 + $<n>2} | ;", 1, "{yyVAL.v = yyDollar[1].v + yyDollar[2].n}"},
		{"%%e: e e {$$ = $1 + $<n>2} | ;", 1, "{yyVAL = yyDollar[1] + yyDollar[2].n}"},
		{"%type <v> e %token <t> A '+' %%e: e '+' A {$<w>$=$1$2$3$$} | ;", 1, "{yyVAL.w=yyDollar[1].vyyDollar[2].tyyDollar[3].tyyVAL.v}"},
		{"%token <t> error A %type <v> e %%e: error A {$001$02}", 1, "{yyDollar[1].tyyDollar[2].t}"},
		{"%type <v> e %%e: 'x' {$$=$1} e {$2$3$$$<z>2} | ;", 1, "{yyVAL=yyDollar[1]}"},
		{"%type <v> e %%e: 'x' {$$=$1} e {$2$3$$$<z>2} | ;", 2, "{yyDollar[2]yyDollar[3].vyyVAL.vyyDollar[2].z}"},
		{"%type <v> e %%e: 'x' {$$=$1} e {$2$3$$$<z>2} | ;", 3, ""},
		{"%type <v> e %%e: 'x' {$$=$1} e {$2$3$$$<z>2} | ;", 0, ""},
		{"%%e: {}", 1, "{}"},
		{"%%e: {\"$9\" '$$' /*$9*/ $ $x}", 1, "{\"$9\" '$$' /*$9*/ $ $x}"},
		{"%%e: 'a' 'b' 'c' 'd' 'e' 'f' 'g' 'h' {$8}", 1, "{yyDollar[8]}"},
		{"%token <a.b> A %%e: A {$1}", 1, "{yyDollar[1].a.b}"},
	} {
		if s, f := Body(grammar(t, c.s), c.p); s != c.want || f != (api.Fault{}) {
			t.Errorf("%s: %d: %s, %v, not %s", c.s, c.p, s, f, c.want)
		}
	}
	g := grammar(t, "%%e: {$$}")
	for _, p := range []int{-1, 2, math.MaxInt, math.MinInt} {
		if s, f := Body(g, p); s != "" || f != (api.Fault{}) {
			t.Errorf("%d: %s, %v", p, s, f)
		}
	}
}

func TestFaults(t *testing.T) {
	for _, c := range []struct {
		s    string
		p    int
		want api.Fault
	}{
		{"%%e: 'x' {$2}", 1, api.Fault{Err: api.ErrRange, At: 9, Name: "$2"}},
		{"%%e: 'x' {$1 $0 $9}", 1, api.Fault{Err: api.ErrRange, At: 9, Name: "$0"}},
		{"%%e: 'x' {$<a>007}", 1, api.Fault{Err: api.ErrRange, At: 9, Name: "$7"}},
		{"%%e: {$1} 'x'", 1, api.Fault{Err: api.ErrRange, At: 5, Name: "$1"}},
		{"%%e: 'x' {$2} 'y'", 1, api.Fault{Err: api.ErrRange, At: 9, Name: "$2"}},
		{"%%e: {$1}", 1, api.Fault{Err: api.ErrRange, At: 5, Name: "$1"}},
		{"%%e: 'x' {$2 $1234}", 1, api.Fault{Err: api.ErrRange, At: 9}},
		{"%%e: 'x' %prec 'y' {$999}", 1, api.Fault{Err: api.ErrRange, At: 19, Name: "$999"}},
	} {
		if s, f := Body(grammar(t, c.s), c.p); s != "" || f != c.want {
			t.Errorf("%s: %d: %s, %v, not %v", c.s, c.p, s, f, c.want)
		}
	}
}

func TestAll(t *testing.T) {
	l, f := All(grammar(t, "%type <v> e %%e: 'x' {$$=$1} e {$2} | ; f: {$$}"))
	if fmt.Sprintf("%q", l) != `["" "{yyVAL=yyDollar[1]}" "{yyDollar[2]}" "" "{yyVAL}"]` || f != (api.Fault{}) {
		t.Errorf("%q, %v", l, f)
	}
	l, f = All(grammar(t, "%%e: 'x' {$1} | {$1} e {$5} | {$7}"))
	if l != nil || f != (api.Fault{Err: api.ErrRange, At: 16, Name: "$1"}) {
		t.Errorf("%q, %v", l, f)
	}
}
