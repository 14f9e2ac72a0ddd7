// Package scan: names and remarks, as sources and the texts of actions have
// them. It stands beside the layers, on api alone.
package scan

import (
	"strings"

	"yucca/api"
)

// Letter tells whether c is a letter from a to z or from A to Z.
func Letter(c byte) bool {
	return c >= 'a' && c <= 'z' || c >= 'A' && c <= 'Z'
}

// Digit tells whether c is a digit.
func Digit(c byte) bool { return c >= '0' && c <= '9' }

// Digits tells the place behind the digits that begin at s[at].
func Digits(s string, at int) int {
	for at < len(s) && Digit(s[at]) {
		at++
	}
	return at
}

// Name tells the place behind the bytes of a name that begin at s[at],
// however many they are; at: no name begins there.
func Name(s string, at int) int {
	if at >= len(s) || !begins(s[at]) {
		return at
	}
	for at < len(s) && (begins(s[at]) || Digit(s[at]) || s[at] == '.') {
		at++
	}
	return at
}

func begins(c byte) bool { return Letter(c) || c == '_' }

// IsName tells whether all of s is a name.
func IsName(s string) bool {
	return s != "" && len(s) <= api.MaxName && Name(s, 0) == len(s)
}

// Tag tells the place behind the `<name>` that begins at s[at]; at: none
// begins there.
func Tag(s string, at int) int {
	if at >= len(s) || s[at] != '<' {
		return at
	}
	end := Name(s, at+1)
	if !IsName(s[at+1:end]) || end >= len(s) || s[end] != '>' {
		return at
	}
	return end + 1
}

// Remark tells the place behind the remark that begins at s[at]; at: none
// begins there; -1: it does not end.
func Remark(s string, at int) int {
	rest := s[at:]
	if strings.HasPrefix(rest, "//") {
		if i := strings.IndexByte(rest, '\n'); i >= 0 {
			return at + i
		}
		return len(s)
	}
	if strings.HasPrefix(rest, "/*") {
		return Behind(s, at+2, "*/")
	}
	return at
}

// Behind tells the place behind the first mark from s[at] on; -1: none
// follows.
func Behind(s string, at int, mark string) int {
	i := strings.Index(s[at:], mark)
	if i < 0 {
		return -1
	}
	return at + i + len(mark)
}
