package names

import (
	"math"
	"slices"
	"testing"
)

func TestPutGivesTheNextNumberOnce(t *testing.T) {
	n := New()
	for i, c := range []struct {
		name string
		want int
	}{{"b", 0}, {"a", 1}, {"b", 0}, {"", 2}, {"a", 1}, {"\xff", 3}, {"B", 4}, {"", 2}} {
		if got := n.Put(c.name); got != c.want {
			t.Errorf("%d: %d", i, got)
		}
	}
	if n.Len() != 5 {
		t.Error(n.Len())
	}
	for i, want := range []string{"b", "a", "", "\xff", "B"} {
		if s, ok := n.At(i); !ok || s != want || n.Find(want) != i {
			t.Errorf("%d: %q, %v, %d", i, s, ok, n.Find(want))
		}
	}
}

func TestWhatIsNotThere(t *testing.T) {
	n := New()
	if n.Find("a") != -1 || n.Find("") != -1 || n.Len() != 0 || len(n.Sorted()) != 0 {
		t.Error("a new one has names")
	}
	var zero Names
	if zero.Find("a") != -1 || zero.Put("a") != 0 || zero.Len() != 1 {
		t.Error("a zero one")
	}
	n.Put("a")
	for _, i := range []int{-1, 1, math.MaxInt, math.MinInt} {
		if s, ok := n.At(i); s != "" || ok {
			t.Errorf("%d: %q", i, s)
		}
	}
	if n.Find("b") != -1 || n.Len() != 1 {
		t.Error("Find puts a name")
	}
}

func TestSortedByteByByte(t *testing.T) {
	n := New()
	for _, s := range []string{"b", "a", "\xff", "ab", "B", "", "é"} {
		n.Put(s)
	}
	want := []int{5, 4, 1, 3, 0, 6, 2}
	l := n.Sorted()
	if !slices.Equal(l, want) {
		t.Error(l)
	}
	l[0] = 99
	if !slices.Equal(n.Sorted(), want) {
		t.Error("a told list changes the names")
	}
}

func TestObjectsHaveNothingInCommon(t *testing.T) {
	a, b := New(), New()
	a.Put("x")
	if b.Find("x") != -1 || b.Put("y") != 0 || a.Find("y") != -1 {
		t.Error("shared")
	}
}
