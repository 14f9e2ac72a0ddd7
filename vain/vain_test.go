package vain

import (
	"fmt"
	"strings"
	"testing"

	"yucca/api"
	"yucca/gram"
	"yucca/sample"
)

func grammar(t *testing.T, s string) api.Grammar {
	t.Helper()
	g, f := sample.Grammar(s)
	if f.Err != api.OK {
		t.Fatalf("%s: %v", s, f)
	}
	return g
}

func names(g api.Grammar, l []int) string {
	var s []string
	for _, x := range l {
		s = append(s, gram.Name(g, x))
	}
	return strings.Join(s, " ")
}

func TestLists(t *testing.T) {
	for _, c := range []struct{ s, nullable, vain, reached string }{
		{"%%a: b b; b: ;", "$accept a b", "", "$accept a b"},
		{"%%a: 'x'; b: ;", "b", "", "'x' $accept a"},
		{"%%a: a 'x'; b: a | c; c: b | error;", "", "$accept a", "'x' $accept a"},
		{"%%a: c | {} error; b: a; c: b 'x' c;", "@1", "c", "error 'x' $accept a b c @1"},
		{"%%a: error;", "", "", "error $accept a"},
		{"%token A B %%a: b {} A; b: | c; c: B b c;", "b @1", "c", "A B $accept a b c @1"},
		{"%%s: s;", "", "$accept s", "$accept s"},
	} {
		g := grammar(t, c.s)
		if got := names(g, Nullable(g)); got != c.nullable {
			t.Errorf("%s: nullable %s", c.s, got)
		}
		if got := names(g, Vain(g)); got != c.vain {
			t.Errorf("%s: vain %s", c.s, got)
		}
		if got := names(g, Reached(g)); got != c.reached {
			t.Errorf("%s: reached %s", c.s, got)
		}
	}
}

// doubled tells rules of which the first one has an empty tree of many nodes.
func doubled(times int, last string) string {
	s := "%%"
	for i := range times {
		s += fmt.Sprintf("a%d: a%d a%d;", i, i+1, i+1)
	}
	return s + fmt.Sprintf("a%d: %s;", times, last)
}

func TestEmpty(t *testing.T) {
	for s, want := range map[string]string{
		"%%a: b b; b: ;":                        "[4 3 1]",
		"%%a: 'x' | b; b: 'y';":                 "[0 0 0]",
		"%%a: | b | c c; b: {} {}; c: | b;":     "[8 7 2 3 1]",
		"%%a: a | ;":                            "[-1 -1]",
		"%%a: a 'x' | b a | ; b: 'y';":          "[2 1 0]",
		"%%a: b; b: c; c: a | ;":                "[-1 -1 -1 -1]",
		"%%a: b 'x' | ; b: b b | ; c: b | 'y';": "[2 1 -1 -1]",
		"%%a: | b c; b: b | 'x'; c: c c | ;":    "[2 1 0 -1]",
		"%%a: | b; b: a 'x' | ;":                "[3 2 1]",
		doubled(10, ""):                         "[2048 2047 1023 511 255 127 63 31 15 7 3 1]",
		doubled(11, ""):                         "[-1 -1 2047 1023 511 255 127 63 31 15 7 3 1]",
		doubled(1, "") + "b: a0 a0 a0;":         "[4 3 1 10]",
	} {
		if got := fmt.Sprint(Empty(grammar(t, s))); got != want {
			t.Errorf("%s: %s, not %s", s, got, want)
		}
	}
}

func TestEmptyAtItsEdge(t *testing.T) {
	// a0 to a8 have 511, 255, .., 3, 1 nodes.
	s := doubled(8, "") + "b: a0 a0 a0 a0 a0 c a7 a8;"
	for _, c := range []struct {
		s    string
		want int
	}{
		{s + "c: a1 a2 a4 a5 a6 a7 a8;", 3000},
		{s + "c: a1 a2 a4 a5 a6 a7 a8 a8;", -1},
		{s + "c: a1 a2 a4 a5 a6 a7;", 2999},
	} {
		g := grammar(t, c.s)
		if b := Empty(g)[10]; b != c.want {
			t.Errorf("%s: %d, not %d", c.s, b, c.want)
		}
	}
}

// height tells of each nonterminal whether a list comes of it by a tree of at
// most that height, one of tokens or the empty one.
func height(g api.Grammar, h int, tokens bool) []bool {
	ok := make([]bool, len(g.Nons))
	for range h {
		next := make([]bool, len(g.Nons))
		for _, p := range g.Prods {
			fits := true
			for _, s := range p.Right {
				if s < api.Non0 {
					fits = fits && tokens
				} else {
					fits = fits && ok[s-api.Non0]
				}
			}
			next[p.Left] = next[p.Left] || fits
		}
		ok = next
	}
	return ok
}

func TestAgainstTrying(t *testing.T) {
	for seed := range 400 {
		g := grammar(t, sample.Small(seed))
		nullable, lives := height(g, 30, false), height(g, 30, true)
		var n, v []int
		for i := range g.Nons {
			if nullable[i] {
				n = append(n, api.Non0+i)
			}
			if !lives[i] {
				v = append(v, api.Non0+i)
			}
		}
		if fmt.Sprint(n) != fmt.Sprint(Nullable(g)) || fmt.Sprint(v) != fmt.Sprint(Vain(g)) {
			t.Errorf("%s: %v, %v", sample.Small(seed), Nullable(g), Vain(g))
		}
		for i, size := range Empty(g) {
			if (size != 0) != nullable[i] {
				t.Errorf("%s: %v", sample.Small(seed), Empty(g))
			}
		}
	}
}
