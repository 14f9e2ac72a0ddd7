// Package sample: grammars for the tests of the other packages. It stands
// beside the layers, on read and gram.
package sample

import (
	"strings"

	"yucca/api"
	"yucca/gram"
	"yucca/read"
)

// Grammar tells the grammar of a source's text.
func Grammar(s string) (api.Grammar, api.Fault) {
	src, f := read.Read(s)
	if f.Err != api.OK {
		return api.Grammar{}, f
	}
	return gram.Of(src)
}

// Texts tells sources without a fault, each of a kind of its own.
func Texts() []string {
	return []string{
		"%%\ns : 'x' ;\n",
		"%%\ns : ;\n",
		"%%\ne : e '+' e | 'x' ;\n",
		"%left '+' '-'\n%left '*'\n%right '^'\n%nonassoc '<'\n%%\ne : e '+' e | e '-' e | e '*' e | e '^' e | e '<' e | '(' e ')' | 'x' ;\n",
		"%%\ne : e '+' t | t ;\nt : t '*' f | f ;\nf : '(' e ')' | 'x' ;\n",
		"%%\ns : c c ;\nc : 'x' c | 'y' ;\n",
		"%%\ns : l '=' r | r ;\nl : '*' r | 'x' ;\nr : l ;\n",
		"%%\ns : 'a' a 'd' | 'b' b 'd' | 'a' b 'e' | 'b' a 'e' ;\na : 'c' ;\nb : 'c' ;\n",
		"%token IF THEN ELSE\n%%\ns : IF 'c' THEN s | IF 'c' THEN s ELSE s | 'x' ;\n",
		"%%\na : b b ;\nb : ;\n",
		"%%\na : b b 'x' | c ;\nb : c | 'y' ;\nc : | 'z' ;\n",
		"%%\ns : s 'x' ';' | error ';' | 'x' ';' ;\n",
		"%%\nl : l s | ;\ns : 'x' '=' e ';' | error ';' ;\ne : e '+' 'x' | 'x' | '(' error ')' ;\n",
		"%token NUM\n%type <v> e\n%token <n> NUM\n%left '+'\n%left NEG\n%%\np : p { a() } e ';' { $$ = $3 } | ;\ne : e '+' e { $$ = $1 + $3 } | '-' e %prec NEG { $$ = -$2 } | NUM ;\n",
		"%%\ns : a ;\na : a | 'x' ;\n",
		"%%\ns : 'x' v | 'y' ;\nv : v 'x' ;\nw : 'z' ;\n",
		"%%\ns : s s | 'x' | ;\n",
		"%%\na : b ;\nb : c ;\nc : a | 'x' | ;\n",
		"%start b\n%%\na : 'x' b ;\nb : a | 'y' { } a | ;\n",
	}
}

// dice throws the same numbers for the same seed, always.
type dice struct{ state uint64 }

// below tells a number from 0 below n.
func (d *dice) below(n int) int {
	d.state = d.state*6364136223846793005 + 1442695040888963407
	return int(d.state>>33) % n
}

// Small tells the source of a small grammar, another one for each seed, made
// without regard to conflicts or to whether something comes of it.
func Small(seed int) string {
	d := &dice{state: uint64(seed)*2654435761 + 12345}
	d.below(2)
	var b strings.Builder
	if d.below(3) == 0 {
		kinds := []string{"%left", "%right", "%nonassoc"}
		b.WriteString(kinds[d.below(3)] + " 'x'\n" + kinds[d.below(3)] + " 'y' 'z'\n")
	}
	b.WriteString("%%\n")
	nons := 1 + d.below(4)
	for i := range nons {
		b.WriteString(string("abcd"[i]) + " :")
		for j := range 1 + d.below(3) {
			if j > 0 {
				b.WriteString(" |")
			}
			for range d.below(4) {
				b.WriteString(d.symbol(nons))
			}
		}
		b.WriteString(" ;\n")
	}
	return b.String()
}

func (d *dice) symbol(nons int) string {
	switch k := d.below(20); {
	case k == 0:
		return " error"
	case k == 1:
		return " {}"
	case k < 11:
		return " " + string("abcd"[d.below(nons)])
	}
	return " '" + string("xyz"[d.below(3)]) + "'"
}
