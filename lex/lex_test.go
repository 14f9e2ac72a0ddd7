package lex

import (
	"fmt"
	"strings"
	"testing"

	"yucca/api"
)

// show tells words in short: the kind, the text, the place.
func show(l []api.Word) string {
	names := []string{"?", "name", "lit", "num", "tag", "key", "sign", "mark", "code", "pro", "end"}
	var b strings.Builder
	for i, w := range l {
		if i > 0 {
			b.WriteByte(' ')
		}
		fmt.Fprintf(&b, "%s%q@%d", names[w.Kind], w.Text, w.At)
	}
	return b.String()
}

func TestWords(t *testing.T) {
	for s, want := range map[string]string{
		"":                               `end""@0`,
		" \t\r\n":                        `end""@4`,
		"%token A '+'\n%%":               `key"%token"@0 name"A"@7 lit"+"@9 mark"%%"@13 end""@15`,
		"a.b_1:x|;":                      `name"a.b_1"@0 sign":"@5 name"x"@6 sign"|"@7 sign";"@8 end""@9`,
		"%left%right%nonassoc":           `key"%left"@0 key"%right"@5 key"%nonassoc"@11 end""@20`,
		"%type%start%prec":               `key"%type"@0 key"%start"@5 key"%prec"@11 end""@16`,
		"%token1 %token_":                `key"%token"@0 num"1"@6 key"%token"@8 name"_"@14 end""@15`,
		"%%%% x \x00":                    `mark"%%"@0 end" x \x00"@4`,
		"%% a %% 'b":                     `mark"%%"@0 name"a"@3 end" 'b"@7`,
		"%%token":                        `mark"%%"@0 name"token"@2 end""@7`,
		"%{%}%{ a\n%{'%}%}":              "", // the last two bytes begin no word
		"%{%}%{ a\n%{'%}":                `pro""@0 pro" a\n%{'"@4 end""@14`,
		"{a{\"}\"}}{}":                   `code"{a{\"}\"}}"@0 code"{}"@8 end""@10`,
		`'\n''\'''a'`:                    `lit"\n"@0 lit"'"@4 lit"a"@8 end""@11`,
		"<a.b><c>":                       `tag"a.b"@0 tag"c"@5 end""@8`,
		"1 50000 9":                      `num"1"@0 num"50000"@2 num"9"@8 end""@9`,
		"1:2|3":                          `num"1"@0 sign":"@1 num"2"@2 sign"|"@3 num"3"@4 end""@5`,
		"a//b\nc//":                      `name"a"@0 name"c"@5 end""@8`,
		"a/*/ */b/**/c":                  `name"a"@0 name"b"@7 name"c"@12 end""@13`,
		"aaaaaaaaaaaaaaaaaaa.":           `name"aaaaaaaaaaaaaaaaaaa."@0 end""@20`,
		"%% a : { %% } %%//%%":           `mark"%%"@0 name"a"@3 sign":"@5 code"{ %% }"@7 end"//%%"@16`,
		"/*%%*/%%":                       `mark"%%"@6 end""@8`,
		"'%''%'":                         `lit"%"@0 lit"%"@3 end""@6`,
		"<aaaaaaaaaaaaaaaaaaaa>":         `tag"aaaaaaaaaaaaaaaaaaaa"@0 end""@22`,
		strings.Repeat(" ", api.MaxText): `end""@4000`,
	} {
		l, f := Words(s)
		if want == "" {
			if f.Err != api.ErrSyntax || l != nil {
				t.Errorf("%q: no fault", s)
			}
			continue
		}
		if got := show(l); got != want || f != (api.Fault{}) {
			t.Errorf("%q: %s, %v, not %s", s, got, f, want)
		}
	}
}

func TestFaults(t *testing.T) {
	for s, at := range map[string]int{
		" a /* b": 3, "/*/": 0, "a {": 2, "a {\"}": 2, "a %{ %": 2, "a 'b": 2, "''": 0, "'''": 0, `'\x'`: 0, "'\n'": 0,
		"x aaaaaaaaaaaaaaaaaaaab": 2, "x 50001": 2, "x 99999999999999999999999999": 2, "0": 0, "x 012": 2, "00": 0,
		"x 12a": 2, "x 1_": 2, "12.": 2, "%": 0, "a %": 2, "% token": 0, "%tokens": 0, "%Token": 0, "%prec%foo": 5, "%}": 0, "%1": 0,
		"<": 0, "<a": 0, "< a>": 0, "<a >": 0, "<>": 0, "<1>": 0, "a <aaaaaaaaaaaaaaaaaaaab>": 2, "=": 0, "a/b": 1, "}": 0, "a\x00": 1, "é": 0, "\"a\"": 0,
		"\v": 0, "-1": 0, "a $": 2, "%% a ' %%": 5, "?%%": 0, ".a": 0, "a;{ 'x }": 2,
	} {
		if l, f := Words(s); l != nil || f != (api.Fault{Err: api.ErrSyntax, At: at}) {
			t.Errorf("%q: %s, %v, not at %d", s, show(l), f, at)
		}
	}
}

func TestLimit(t *testing.T) {
	if l, f := Words("?" + strings.Repeat(" ", api.MaxText)); l != nil || f != (api.Fault{Err: api.ErrLimit}) {
		t.Error(f)
	}
	if l, f := Words("%%%%" + strings.Repeat("?", api.MaxText-4)); len(l) != 2 || len(l[1].Text) != api.MaxText-4 || f.Err != api.OK {
		t.Error(f)
	}
}
