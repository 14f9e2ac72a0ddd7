package char

import (
	"math"
	"testing"
)

func TestTake(t *testing.T) {
	for _, c := range []struct {
		s    string
		at   int
		want byte
		end  int
	}{
		{"x'+'", 1, '+', 4}, {"'a'b", 0, 'a', 3}, {"' '", 0, ' ', 3}, {"'~'", 0, '~', 3}, {`'"'`, 0, '"', 3},
		{`'\n'`, 0, 10, 4}, {`'\t'`, 0, 9, 4}, {`'\r'`, 0, 13, 4}, {`'\\'`, 0, '\\', 4}, {`x'\''y`, 1, '\'', 5},
	} {
		if b, end, ok := Take(c.s, c.at); b != c.want || end != c.end || !ok {
			t.Errorf("%q at %d: %d, %d, %v", c.s, c.at, b, end, ok)
		}
	}
}

func TestTakeOfOthers(t *testing.T) {
	for _, c := range []struct {
		s  string
		at int
	}{
		{"", 0}, {"'", 0}, {"'a", 0}, {"''", 0}, {"'''", 0}, {`'\'`, 0}, {`'\a'`, 0}, {`'\n`, 0}, {`'\nn'`, 0}, {"'ab'", 0},
		{"'\n'", 0}, {"'\x1f'", 0}, {"'\x7f'", 0}, {"'\x80'", 0}, {"'é'", 0}, {"a'b'", 0}, {"'a'", 1}, {"'a'", 3},
		{"'a'", -1}, {"'a'", math.MaxInt}, {"'a'", math.MinInt}, {`'\N'`, 0}, {`"a"`, 0}, {"'a\"", 0},
	} {
		if b, end, ok := Take(c.s, c.at); b != 0 || end != 0 || ok {
			t.Errorf("%q at %d: %d, %d, %v", c.s, c.at, b, end, ok)
		}
	}
}

func TestTakeOfTextIsThatByte(t *testing.T) {
	n := 0
	for i := range 256 {
		s := Text(byte(i))
		if s == "" {
			continue
		}
		n++
		if b, end, ok := Take(s, 0); b != byte(i) || end != len(s) || !ok {
			t.Errorf("%d: %s", i, s)
		}
	}
	if n != 95+3 {
		t.Errorf("%d bytes may stand in quotes", n)
	}
}

func TestText(t *testing.T) {
	for c, want := range map[byte]string{10: `'\n'`, 9: `'\t'`, 13: `'\r'`, '\\': `'\\'`, '\'': `'\''`, '+': "'+'", 0: "", 11: "", 31: "", 127: "", 128: "", 255: ""} {
		if s := Text(c); s != want {
			t.Errorf("%d: %s", c, s)
		}
	}
}
