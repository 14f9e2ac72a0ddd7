package scan

import "testing"

func TestName(t *testing.T) {
	for s, want := range map[string]int{"": 0, "a": 1, "_": 1, "aZ_09.x-": 7, "1a": 0, ".a": 0, "é": 0, "a b": 1} {
		if got := Name(s, 0); got != want {
			t.Errorf("%q: %d", s, got)
		}
	}
	if Name("ab", 2) != 2 || Name("ab", 1) != 2 {
		t.Error("places")
	}
}

func TestIsName(t *testing.T) {
	for s, want := range map[string]bool{"": false, "a": true, "a234567890123456789.": true, "a234567890123456789.b": false, "a-": false, "9": false} {
		if IsName(s) != want {
			t.Errorf("%q", s)
		}
	}
}

func TestTag(t *testing.T) {
	for s, want := range map[string]int{"<a>": 3, "<a.b>c": 5, "<>": 0, "<a": 0, "<": 0, "<a >": 0, "<1>": 0, "a": 0, "": 0, "<a23456789012345678901>": 0} {
		if got := Tag(s, 0); got != want {
			t.Errorf("%q: %d", s, got)
		}
	}
}

func TestRemark(t *testing.T) {
	for s, want := range map[string]int{"//": 2, "//a\nb": 3, "/**/": 4, "/*/": -1, "/*/*/": 5, "/*": -1, "/": 0, "a": 0, "/* \n */ */": 7} {
		if got := Remark(s, 0); got != want {
			t.Errorf("%q: %d", s, got)
		}
	}
}

func TestBehind(t *testing.T) {
	if Behind("a%}%}", 0, "%}") != 3 || Behind("a%}%}", 2, "%}") != 5 || Behind("a%}", 3, "%}") != -1 {
		t.Error("places")
	}
}

func TestDigits(t *testing.T) {
	for s, want := range map[string]int{"": 0, "a": 0, "0": 1, "019a": 3, "9/": 1, "5:": 1} {
		if got := Digits(s, 0); got != want {
			t.Errorf("%q: %d", s, got)
		}
	}
	if !Letter('a') || !Letter('Z') || Letter('_') || Letter('0') || Letter('[') || Letter('`') {
		t.Error("letters")
	}
}
