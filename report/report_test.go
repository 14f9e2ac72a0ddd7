package report

import (
	"strings"
	"testing"

	"yucca/api"
	"yucca/auto"
	"yucca/cand"
	"yucca/look"
	"yucca/sample"
	"yucca/settle"
)

func text(t *testing.T, s string) string {
	t.Helper()
	g, f := sample.Grammar(s)
	if f.Err != api.OK {
		t.Fatalf("%s: %v", s, f)
	}
	m, _ := auto.Of(g)
	d, l := settle.Of(g, m, cand.Of(g, m, look.Of(g, m)))
	return Text(g, m, d, l)
}

// one is the report of s : 'x'.
const one = `state 0
	$accept : . s
	s : . 'x'
	'x' shift 1
	s goto 2
state 1
	s : 'x' .
	$end reduce 1
state 2
	$accept : s .
	$end accept
4 tokens, 2 nonterminals, 2 productions, 3 states, 0 shift/reduce, 0 reduce/reduce
`

func TestText(t *testing.T) {
	if s := text(t, "%%s: 'x'"); s != one {
		t.Error(s)
	}
	if s := text(t, "%%e: e '\\n' e | {} 'x'"); !strings.Contains(s, "\tconflict '\\n': 1 left out\n\t$end reduce 1\n\t'\\n' shift 3\n") || !strings.Contains(s, "\t@1 goto 2\n") {
		t.Error(s)
	}
}

// many is a grammar with all that a state may have: two reductions and a shift at one
// token, an error that was chosen.
const many = `%nonassoc '<'
%left 'y'
%%
e : e '<' e | 'x' | a 'y' | b 'y' | 'y' ;
a : ;
b : ;
`

const manyText = `state 0
	$accept : . e
	e : . e '<' e
	e : . 'x'
	e : . a 'y'
	e : . b 'y'
	e : . 'y'
	a : .
	b : .
	conflict 'y': 7 left out
	conflict 'y': 6 left out
	'y' shift 1
	'x' shift 2
	e goto 3
	a goto 4
	b goto 5
state 1
	e : 'y' .
	$end reduce 5
	'<' reduce 5
state 2
	e : 'x' .
	$end reduce 2
	'<' reduce 2
state 3
	$accept : e .
	e : e . '<' e
	$end accept
	'<' shift 6
state 4
	e : a . 'y'
	'y' shift 7
state 5
	e : b . 'y'
	'y' shift 8
state 6
	e : . e '<' e
	e : e '<' . e
	e : . 'x'
	e : . a 'y'
	e : . b 'y'
	e : . 'y'
	a : .
	b : .
	conflict 'y': 7 left out
	conflict 'y': 6 left out
	'y' shift 1
	'x' shift 2
	e goto 9
	a goto 4
	b goto 5
state 7
	e : a 'y' .
	$end reduce 3
	'<' reduce 3
state 8
	e : b 'y' .
	$end reduce 4
	'<' reduce 4
state 9
	e : e . '<' e
	e : e '<' e .
	$end reduce 1
	'<' error
6 tokens, 4 nonterminals, 8 productions, 10 states, 2 shift/reduce, 2 reduce/reduce
`

func TestConflicts(t *testing.T) {
	if s := text(t, many); s != manyText {
		t.Error(s)
	}
}
