package print

import (
	"math/rand"
	"strings"
	"testing"

	"yucca/api"
	"yucca/read"
)

func name(s string) api.Sym { return api.Sym{Name: s} }
func lit(s string) api.Sym  { return api.Sym{Name: s, Lit: true} }

// full tells a source that has each kind of part.
func full() api.Source {
	return api.Source{
		Pro: "\n import \"x\" %",
		Decls: []api.Decl{
			{Kind: api.DToken, Tag: "t", Syms: []api.Sym{{Name: "A", Num: 300}, name("B"), lit("+")}, At: 7},
			{Kind: api.DLeft, Syms: []api.Sym{lit("\n")}},
			{Kind: api.DRight, Tag: "a.b", Syms: []api.Sym{name("error")}},
			{Kind: api.DNon, Syms: []api.Sym{lit("'"), lit("\\")}},
			{Kind: api.DType, Tag: "u", Syms: []api.Sym{name("s"), name("t")}},
			{Kind: api.DStart, Syms: []api.Sym{name("s")}},
		},
		Rules: []api.Rule{
			{Left: "s", Alts: []api.Alt{
				{},
				{Parts: []api.Part{{Sym: name("s")}, {Code: "{ x = \"}\" }"}, {Sym: lit("+"), At: 3}}, Prec: name("A")},
				{Prec: lit("+"), Parts: []api.Part{{Code: "{}"}}, At: 5},
			}},
			{Left: "t", Alts: []api.Alt{{Parts: []api.Part{{Sym: api.Sym{Name: "A", At: 4}}, {Code: "{\n}", Sym: api.Sym{At: 9}}}, Prec: api.Sym{At: 3}}}},
		},
		Tail: "%% tail",
	}
}

const fullText = "%{\n import \"x\" %%}\n%token <t> A 300 B '+'\n%left '\\n'\n%right <a.b> error\n%nonassoc '\\'' '\\\\'\n%type <u> s t\n%start s\n%%\n" +
	"s : | s { x = \"}\" } '+' %prec A | {} %prec '+' ;\nt : A {\n} ;\n%%%% tail"

func TestText(t *testing.T) {
	if s := Text(full()); s != fullText {
		t.Error(s)
	}
	x := api.Source{Rules: []api.Rule{{Left: "a", Alts: []api.Alt{{Parts: []api.Part{{Sym: lit("x")}}}}}}}
	if s := Text(x); s != "%%\na : 'x' ;\n" {
		t.Error(s)
	}
	x.Rules[0].Alts[0].Parts = nil
	if s := Text(x); s != "%%\na : ;\n" {
		t.Error(s)
	}
	x.Rules[0].Alts = append(x.Rules[0].Alts, api.Alt{})
	if s := Text(x); s != "%%\na : | ;\n" {
		t.Error(s)
	}
}

func TestMay(t *testing.T) {
	if !May(full()) {
		t.Fatal("full")
	}
	long := strings.Repeat("a", api.MaxName+1)
	for i, wrong := range []func(x *api.Source){
		func(x *api.Source) { x.Pro = "a%}b" },
		func(x *api.Source) { x.Rules = nil },
		func(x *api.Source) { x.Decls[0].Kind = 0 },
		func(x *api.Source) { x.Decls[0].Kind = 7 },
		func(x *api.Source) { x.Decls[0].Tag = "a b" },
		func(x *api.Source) { x.Decls[0].Tag = long },
		func(x *api.Source) { x.Decls[0].Syms = nil },
		func(x *api.Source) { x.Decls[0].Syms[0].Num = -1 },
		func(x *api.Source) { x.Decls[0].Syms[0].Num = api.MaxNum + 1 },
		func(x *api.Source) { x.Decls[0].Syms[2].Num = 5 },
		func(x *api.Source) { x.Decls[0].Syms[0].Name = "" },
		func(x *api.Source) { x.Decls[0].Syms[0].Name = long },
		func(x *api.Source) { x.Decls[0].Syms[2].Name = "ab" },
		func(x *api.Source) { x.Decls[0].Syms[2].Name = "" },
		func(x *api.Source) { x.Decls[0].Syms[2].Name = "\x80" },
		func(x *api.Source) { x.Decls[1].Syms = append(x.Decls[1].Syms, api.Sym{Name: "A", Num: 1}) },
		func(x *api.Source) { x.Decls[4].Tag = "" },
		func(x *api.Source) { x.Decls[4].Syms[0] = lit("x") },
		func(x *api.Source) { x.Decls[4].Syms[0].Num = 1 },
		func(x *api.Source) { x.Decls[5].Tag = "u" },
		func(x *api.Source) { x.Decls[5].Syms = append(x.Decls[5].Syms, name("t")) },
		func(x *api.Source) { x.Decls[5].Syms[0] = lit("x") },
		func(x *api.Source) { x.Decls[5].Syms = nil },
		func(x *api.Source) { x.Rules[0].Left = "" },
		func(x *api.Source) { x.Rules[0].Left = "1" },
		func(x *api.Source) { x.Rules[0].Alts = nil },
		func(x *api.Source) { x.Rules[0].Alts[1].Parts[0] = api.Part{} },
		func(x *api.Source) { x.Rules[0].Alts[1].Parts[0].Sym.Num = 1 },
		func(x *api.Source) { x.Rules[0].Alts[1].Parts[0].Sym.Name = "a-b" },
		func(x *api.Source) { x.Rules[0].Alts[1].Parts[1].Code = "{" },
		func(x *api.Source) { x.Rules[0].Alts[1].Parts[1].Code = "{}}" },
		func(x *api.Source) { x.Rules[0].Alts[1].Parts[1].Code = "x" },
		func(x *api.Source) { x.Rules[0].Alts[1].Parts[1].Sym.Name = "a" },
		func(x *api.Source) { x.Rules[0].Alts[1].Parts[1].Sym.Lit = true },
		func(x *api.Source) { x.Rules[0].Alts[1].Parts[1].Sym.Num = 1 },
		func(x *api.Source) { x.Rules[0].Alts[1].Prec.Num = 1 },
		func(x *api.Source) { x.Rules[0].Alts[1].Prec.Lit = true; x.Rules[0].Alts[1].Prec.Name = "" },
		func(x *api.Source) { x.Rules[0].Alts[0].Prec.Num = 1 },
	} {
		x := full()
		wrong(&x)
		if May(x) || Text(x) != "" {
			t.Errorf("%d: may be", i)
		}
		if Same(x, full()) {
			t.Errorf("%d: the same", i)
		}
	}
	x := full()
	x.Decls[0].Syms[0].Num = api.MaxNum
	x.Decls[0].Tag = ""
	x.Decls[0].Syms[1].Name = long[1:]
	if !May(x) {
		t.Error("at the edges")
	}
}

func TestSame(t *testing.T) {
	a, b := full(), full()
	b.Decls[0].At, b.Decls[0].Syms[0].At = 50, 51
	b.Rules[0].At, b.Rules[0].Alts[1].At, b.Rules[0].Alts[1].Parts[0].At, b.Rules[0].Alts[1].Prec.At = 52, 53, 54, 55
	b.Rules[0].Alts[0].Parts = []api.Part{}
	if !Same(a, b) {
		t.Error("places count")
	}
	if !Same(api.Source{}, api.Source{Decls: []api.Decl{}, Rules: []api.Rule{}}) {
		t.Error("nil and empty")
	}
	for i, other := range []func(x *api.Source){
		func(x *api.Source) { x.Pro += "x" },
		func(x *api.Source) { x.Tail = "" },
		func(x *api.Source) { x.Decls = x.Decls[:5] },
		func(x *api.Source) { x.Decls[2].Kind = api.DLeft },
		func(x *api.Source) { x.Decls[0].Tag = "z" },
		func(x *api.Source) { x.Decls[0].Syms[0].Num = 0 },
		func(x *api.Source) { x.Decls[0].Syms[2].Lit = false },
		func(x *api.Source) { x.Rules[1].Left = "u" },
		func(x *api.Source) { x.Rules[0].Alts = x.Rules[0].Alts[:2] },
		func(x *api.Source) { x.Rules[0].Alts[1].Prec = api.Sym{} },
		func(x *api.Source) { x.Rules[0].Alts[1].Parts = x.Rules[0].Alts[1].Parts[:2] },
		func(x *api.Source) { x.Rules[1].Alts[0].Parts[1].Code = "{}" },
	} {
		x := full()
		other(&x)
		if Same(x, a) || Same(a, x) {
			t.Errorf("%d: the same", i)
		}
	}
}

// random tells a source that may be.
func random(rnd *rand.Rand) api.Source {
	names := []string{"a", "b.c", "_x", "error", "Z9"}
	lits := []string{"+", "'", "\\", "\n", "\t", "\r", " ", "{"}
	codes := []string{"{}", "{ {$1} }", "{//}\n}", "{'}'}", "{/*}*/}"}
	sym := func() api.Sym {
		if rnd.Intn(3) == 0 {
			return lit(lits[rnd.Intn(len(lits))])
		}
		return name(names[rnd.Intn(len(names))])
	}
	x := api.Source{Pro: []string{"", "a", "%", "}\n"}[rnd.Intn(4)], Tail: []string{"", "a", "%", "%%", "\n{"}[rnd.Intn(5)]}
	for range rnd.Intn(4) {
		d := api.Decl{Kind: 1 + rnd.Intn(4), Tag: []string{"", "t"}[rnd.Intn(2)]}
		for range 1 + rnd.Intn(3) {
			s := sym()
			if d.Kind == api.DToken && !s.Lit {
				s.Num = rnd.Intn(3)
			}
			d.Syms = append(d.Syms, s)
		}
		x.Decls = append(x.Decls, d)
	}
	if rnd.Intn(2) == 0 {
		x.Decls = append(x.Decls, api.Decl{Kind: api.DType, Tag: "v", Syms: []api.Sym{name("a")}}, api.Decl{Kind: api.DStart, Syms: []api.Sym{name("a")}})
	}
	for range 1 + rnd.Intn(3) {
		r := api.Rule{Left: names[rnd.Intn(len(names))]}
		for range 1 + rnd.Intn(3) {
			var a api.Alt
			for range rnd.Intn(4) {
				if rnd.Intn(3) == 0 {
					a.Parts = append(a.Parts, api.Part{Code: codes[rnd.Intn(len(codes))]})
				} else {
					a.Parts = append(a.Parts, api.Part{Sym: sym()})
				}
			}
			if rnd.Intn(3) == 0 {
				a.Prec = sym()
			}
			r.Alts = append(r.Alts, a)
		}
		x.Rules = append(x.Rules, r)
	}
	return x
}

func TestReadOfTextIsTheSame(t *testing.T) {
	for seed := range int64(2000) {
		x := random(rand.New(rand.NewSource(seed)))
		back, f := read.Read(Text(x))
		if f.Err != api.OK || !Same(x, back) {
			t.Fatalf("%q: %v", Text(x), f)
		}
	}
	if back, f := read.Read(fullText); f.Err != api.OK || !Same(back, full()) {
		t.Error(f)
	}
}
