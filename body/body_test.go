package body

import (
	"fmt"
	"math"
	"strings"
	"testing"

	"yucca/api"
)

func TestEnd(t *testing.T) {
	for _, c := range []struct {
		s        string
		at, want int
	}{
		{"{}", 0, 2}, {"{}}", 0, 2}, {"a{b{c}d}e", 1, 8}, {"a{b{c}d}e", 3, 6}, {"{", 0, -1}, {"{{}", 0, -1}, {"}", 0, -1}, {"", 0, -1},
		{"x{}", 0, -1}, {"{}", -1, -1}, {"{}", 2, -1}, {"{}", math.MaxInt, -1}, {"{}", math.MinInt, -1},
		{`{"}"}`, 0, 5}, {`{'}'}`, 0, 5}, {"{`}`}", 0, 5}, {"{//}\n}", 0, 6}, {"{//}", 0, -1}, {"{/*}*/}", 0, 7}, {"{/*/}*/}", 0, 8},
		{`{"\"}"}`, 0, 7}, {`{'\'}'}`, 0, 7}, {"{`\\`}", 0, 5}, {`{"\\"}`, 0, 6}, {`{"'"}`, 0, 5}, {"{\"//\"}", 0, 6},
		{`{"}`, 0, -1}, {`{'}`, 0, -1}, {"{`}", 0, -1}, {"{/*}", 0, -1}, {"{/*/}", 0, -1}, {"{\"\n\"}", 0, -1}, {"{'\n'}", 0, -1}, {"{\"\\\n\"}", 0, -1},
		{"{`\n`}", 0, 5}, {"{/*\n*/}", 0, 7}, {`{"\`, 0, -1}, {"{}\"", 0, 2}, {"\"{}", 1, 3}, {"{/ / *}", 0, 7}, {"{// \"\n}", 0, 7},
		{"{//{\n}", 0, 6}, {"{/", 0, -1},
	} {
		if got := End(c.s, c.at); got != c.want {
			t.Errorf("%q at %d: %d, not %d", c.s, c.at, got, c.want)
		}
	}
}

// show tells pieces in short: text in brackets, tags behind a colon.
func show(l []api.Piece) string {
	var b strings.Builder
	for _, p := range l {
		switch p.Kind {
		case api.PText:
			fmt.Fprintf(&b, "[%s]", p.Text)
		case api.PWhole:
			fmt.Fprintf(&b, "(whole:%s)", p.Tag)
		case api.PPart:
			fmt.Fprintf(&b, "(%d:%s)", p.N, p.Tag)
		}
		if p.Kind != api.PText && p.Text != "" || p.Kind != api.PPart && p.N != 0 || p.Kind == api.PText && p.Tag != "" {
			b.WriteString("!")
		}
	}
	return b.String()
}

func TestCut(t *testing.T) {
	for code, want := range map[string]string{
		"{$$=$1}":                  "[{](whole:)[=](1:)[}]",
		"{}":                       "[{}]",
		"{$}":                      "[{$}]",
		"{$a $<a $<a> $<> $<1>1}":  "[{$a $<a $<a> $<> $<1>1}]",
		"{$<a.b>$$<c>12}":          "[{](whole:a.b)(12:c)[}]",
		"{$$$$1}":                  "[{](whole:)(whole:)[1}]",
		"{$$$1}":                   "[{](whole:)(1:)[}]",
		"{$007$0$999$1a}":          "[{](7:)(0:)(999:)(1:)[a}]",
		"{\"$1\"'$$'`$2`/*$3*/$4}": "[{\"$1\"'$$'`$2`/*$3*/](4:)[}]",
		"{//$1\n$2}":               "[{//$1\n](2:)[}]",
		"{\"$1234\"$1}":            "[{\"$1234\"](1:)[}]",
		"{$\"$1\"}":                "[{$\"$1\"}]",
		"{{$1}}":                   "[{{](1:)[}}]",
		"{$<aaaaaaaaaaaaaaaaaaaa>1 $<aaaaaaaaaaaaaaaaaaaab>1}": "[{](1:aaaaaaaaaaaaaaaaaaaa)[ $<aaaaaaaaaaaaaaaaaaaab>1}]",
		"{$<aaaaaaaaaaaaaaaaaaaab>1234}":                       "[{$<aaaaaaaaaaaaaaaaaaaab>1234}]",
		"{1234$$123}":                                          "[{1234](whole:)[123}]",
	} {
		l, err := Cut(code)
		if got := show(l); err != api.OK || got != want {
			t.Errorf("%s: %s, %d, not %s", code, got, err, want)
		}
	}
}

func TestCutOfOthers(t *testing.T) {
	for code, want := range map[string]api.Errno{
		"": api.ErrForm, "{": api.ErrForm, "{}}": api.ErrForm, "{} ": api.ErrForm, " {}": api.ErrForm, "$1": api.ErrForm, "{\"}": api.ErrForm,
		"{$1234": api.ErrForm, "{$1234}": api.ErrRange, "{$0000}": api.ErrRange, "{$<a>1234}": api.ErrRange, "{$1 $12345678901234567890}": api.ErrRange,
		"{$$$1234}": api.ErrRange, "{$$1234}": api.ErrRange, "{$<a>$1234}": api.ErrRange, "{$$<a>1234}": api.ErrRange,
	} {
		if l, err := Cut(code); err != want || l != nil {
			t.Errorf("%s: %v, %d", code, l, err)
		}
	}
}

func TestJoin(t *testing.T) {
	s, err := Join([]api.Piece{
		{Kind: api.PText, Text: "{"}, {Kind: api.PWhole}, {Kind: api.PWhole, Tag: "a.b"}, {Kind: api.PPart, N: 7},
		{Kind: api.PPart, N: 999, Tag: "_"}, {Kind: api.PPart}, {Kind: api.PText}, {Kind: api.PText, Text: "$", N: 5, Tag: "x"},
		{Kind: api.PPart, N: 1, Text: "no"},
	})
	if err != api.OK || s != "{$$$<a.b>$$7$<_>999$0$$1" {
		t.Errorf("%s, %d", s, err)
	}
	if s, err := Join(nil); s != "" || err != api.OK {
		t.Errorf("%s, %d", s, err)
	}
}

func TestJoinOfOthers(t *testing.T) {
	for _, p := range []api.Piece{
		{}, {Kind: 4}, {Kind: -1, Text: "a"}, {Kind: api.PPart, N: -1}, {Kind: api.PPart, N: 1000}, {Kind: api.PText, N: 1000},
		{Kind: api.PWhole, N: -1}, {Kind: api.PText, Tag: "a b"}, {Kind: api.PWhole, Tag: "1"}, {Kind: api.PPart, Tag: "aaaaaaaaaaaaaaaaaaaab"},
	} {
		if s, err := Join([]api.Piece{{Kind: api.PText, Text: "x"}, p}); s != "" || err != api.ErrForm {
			t.Errorf("%v: %s, %d", p, s, err)
		}
	}
}

func TestJoinOfCutIsTheText(t *testing.T) {
	parts := []string{"$", "$$", "1", "<a>", "\"$1\"", "'", "{", "}", "x", "//", "\n", "/*", "*/", "`", "\\", "7"}
	n := 0
	for i := range 16 * 16 * 16 * 16 {
		code := "{" + parts[i%16] + parts[i/16%16] + parts[i/256%16] + parts[i/4096] + "}"
		l, err := Cut(code)
		if err != api.OK {
			continue
		}
		n++
		if s, err := Join(l); s != code || err != api.OK {
			t.Fatalf("%q: %q, %d", code, s, err)
		}
	}
	if n < 1000 {
		t.Errorf("%d texts alone could be cut", n)
	}
}
